/-
  The law DigestSums returns true. Conditions: a string takes at most 2^47 - 4096 bytes; the packages' variables hold what their texts lay.
-/
import Derived.Test.YtiickcdkibcdpaaDoorDigU
namespace Go.Proofs.YtiickcdkibcdpaaDoor
open Go.RowKit Go.Joins

set_option maxRecDepth 100000 in
set_option maxHeartbeats 1000000 in
theorem sums_any (s : ByteArray) (hs : s.size ≤ 140737488351232) (w : World) (hv : VO w) (hr : RO w) : Calls Tryd.prog 3 #[.string s] w (Gives (.bool true) w) := by
  have AW := hide (awake_any w hv)
  have CP := hide (fun W => crc_any s (by unfold maxLen; omega) W)
  have CR := hide (fun W => rcrc_any s (by unfold maxLen; omega) W)
  have MP := hide (fun W (h : Below w.heap.size w W) => md5_any s (by omega) W (hv.step h))
  have MD := hide (fun W (h : Below w.heap.size w W) => rmd5_any s (by omega) W (hr.step h))
  generalize crcL s.data.toList = c at *
  generalize md5L s.data.toList = m at *
  go_enter Tryd.func3, Tryd.ntmps3
  go_wp2_with fail
  refine AW.out.mono ?_
  rintro e w1 ⟨rfl, hb⟩
  go_wp2_with fail
  refine (CP.out _).mono ?_
  rintro e w' ⟨rfl, rfl⟩
  go_wp2_with fail
  refine (CR.out _).mono ?_
  rintro e w' ⟨rfl, rfl⟩
  go_wp2_with fail
  refine (MP.out _ hb).mono ?_
  rintro e w2 ⟨rfl, hb2⟩
  have HB2 := chain hb hb2
  go_wp2_with fail
  refine (MD.out _ HB2).mono ?_
  rintro e w3 ⟨rfl, hb3⟩
  have HB3 := chain HB2 hb3
  go_wp2
  go_ret
  exact ⟨rfl, HB3⟩
end Go.Proofs.YtiickcdkibcdpaaDoor
