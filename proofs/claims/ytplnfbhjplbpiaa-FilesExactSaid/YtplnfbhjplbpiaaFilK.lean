/-
  The law's own awake returns true. No condition.
-/
import Derived.Test.YtplnfbhjplbpiaaFilS
namespace Go.Proofs.Ytplnfbhjplbpiaa
open Go.RowKit Go.Maps

abbrev nLog : Nm := [108, 111, 103]
def kA1 : Dk := ⟨[⟨nLog, [97, 98, 99], 0⟩], false, -1, 0, 1⟩
def kA2 : Dk := ⟨[⟨nLog, [97, 98, 99], 3⟩], false, -1, 0, 2⟩
def kA3 : Dk := ⟨[⟨nLog, [97, 98, 99, 100, 101], 3⟩], false, -1, 0, 3⟩
def kA4 : Dk := ⟨[⟨nLog, [97, 98, 99, 100], 4⟩], true, -1, 0, 3⟩
def kA5 : Dk := ⟨[⟨nLog, [97, 98, 99, 100], 4⟩], false, -1, 0, 3⟩
theorem kE1 : appendD newD nLog [97, 98, 99] = (0, kA1) := by kernel_rfl
theorem kE2 : syncD kA1 nLog = (0, kA2) := by kernel_rfl
theorem kE3 : appendD kA2 nLog [100, 101] = (0, kA3) := by kernel_rfl
theorem kE4 : offC kA3 1 = kA4 := by kernel_rfl
theorem kE5 : readD kA4 nLog = ([], 60) := by kernel_rfl
theorem kE6 : onD kA4 = kA5 := by kernel_rfl
theorem kE7 : readD kA5 nLog = ([97, 98, 99, 100], 0) := by kernel_rfl
theorem kE8 : safeD kA5 nLog = 4 := by kernel_rfl
theorem kE9 : names kA5.fs = [nLog] := by kernel_rfl
theorem kE10 : appendD kA5 [76, 111, 103] [] = (61, kA5) := by kernel_rfl
theorem len3 : (nLog).length ≤ maxLen := by decide
set_option maxRecDepth 100000 in
set_option maxHeartbeats 1000000 in
theorem awake_any (HN : NamesOk) (w : World) : Calls Try.prog 7 #[] w (Tells w (.bool true)) := by
  go_enter Try.func7, Try.ntmps7
  go_wp2_with fail
  refine (ses_new (Fr.refl _ w)).mono ?_
  rintro e w1 ⟨d, rfl, H1⟩
  go_wp2_with fail
  refine (ses_append H1 (by decide) len3 (by decide) kE1).mono ?_
  rintro e w2 ⟨rfl, H2⟩
  clear H1
  go_wp2_with fail
  refine (ses_sync H2 (by decide) len3 kE2).mono ?_
  rintro e w3 ⟨rfl, H3⟩
  clear H2
  go_wp2_with fail
  refine (ses_append H3 (by decide) len3 (by decide) kE3).mono ?_
  rintro e w4 ⟨rfl, H4⟩
  clear H3
  go_wp2_with fail
  refine (ses_off H4 (by decide) kE4).mono ?_
  rintro e w5 ⟨rfl, H5⟩
  clear H4
  go_wp2_with fail
  refine (ses_read H5 len3 kE5).mono ?_
  rintro e w6 ⟨rfl, H6⟩
  clear H5
  go_wp2_with fail
  refine (ses_on H6 kE6).mono ?_
  rintro e w7 ⟨rfl, H7⟩
  clear H6
  go_wp2_with fail
  refine (ses_read H7 len3 kE7).mono ?_
  rintro e w8 ⟨rfl, H8⟩
  clear H7
  go_wp2_with fail
  refine (ses_safe H8 len3 kE8).mono ?_
  rintro e w9 ⟨rfl, H9⟩
  clear H8
  go_wp2_with fail
  refine (ses_steps H9 rfl).mono ?_
  rintro e w10 ⟨rfl, H10⟩
  clear H9
  go_wp2_with fail
  refine (ses_names HN H10 kE9).mono ?_
  rintro e w11 ⟨v, rfl, H11, RV⟩
  clear H10
  go_wp2_with fail
  refine (ses_same H11 RV (by decide) rfl).mono ?_
  rintro e w12 ⟨rfl, H12⟩
  clear H11 RV
  go_wp2_with fail
  refine (ses_down H12 rfl).mono ?_
  rintro e w13 ⟨rfl, H13⟩
  clear H12
  go_wp2_with fail
  refine (ses_append H13 (by decide) (by decide) (by decide) kE10).mono ?_
  rintro e w14 ⟨rfl, H14⟩
  go_wp2
  go_ret
  exact ⟨rfl, H14.fr⟩
end Go.Proofs.Ytplnfbhjplbpiaa
