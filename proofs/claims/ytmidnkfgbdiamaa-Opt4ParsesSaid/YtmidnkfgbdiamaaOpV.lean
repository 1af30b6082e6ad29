/-
  The contract of awake. No condition.
-/
import Derived.Test.YtmidnkfgbdiamaaOpW
namespace Go.Proofs.Ytmidnkfgbdiamaa
open Go.RowKit Go.Joins Go.Maps

set_option maxRecDepth 100000 in
set_option maxHeartbeats 2000000 in
theorem awake_any (w : World) : Calls Try.prog 8 #[] w (Gives (.bool true) w) := by
  go_enter Try.func8, Try.ntmps8
  go_wp2_with fail
  refine (a_parse w _ rfl).mono ?_
  rintro e w1 ⟨v1, rfl, hb1, ho1⟩
  have HB1 := hide (chain (below_alloc _ _) hb1)
  have HO1 := hide ho1
  clear hb1 ho1
  go_wp2_with fail
  refine (a_emit w1 _ rfl).mono ?_
  rintro e w2 ⟨rfl, hb2⟩
  have HB2 := hide (chain (below_alloc _ _) hb2)
  have HO2 := hide (HO1.out.step HB2.out)
  clear hb2
  go_wp2_with fail
  refine (a_find w2 v1 HO2.out).mono ?_
  rintro e w3 ⟨rfl, hb3⟩
  have HB3 := hide hb3
  have HO3 := hide (HO2.out.step HB3.out)
  clear hb3
  go_wp2_with fail
  refine (a_same1 w3 _ v1 rfl HO3.out).mono ?_
  rintro e w4 ⟨rfl, hb4⟩
  have HB4 := hide (chain (below_alloc _ _) hb4)
  have HO4 := hide (HO3.out.step HB4.out)
  clear hb4
  go_wp2_with fail
  refine (a_without w4 v1 HO4.out).mono ?_
  rintro e w5 ⟨v5, rfl, hb5, ho5⟩
  have HB5 := hide hb5
  have HO5 := hide ho5
  clear hb5 ho5
  go_wp2_with fail
  refine (a_same2 w5 _ v5 rfl HO5.out).mono ?_
  rintro e w6 ⟨rfl, hb6⟩
  have HB6 := hide (chain (below_alloc _ _) hb6)
  clear hb6
  go_wp2
  go_ret
  exact ⟨rfl, chain HB1.out (chain HB2.out (chain HB3.out (chain HB4.out (chain HB5.out HB6.out))))⟩
end Go.Proofs.Ytmidnkfgbdiamaa
