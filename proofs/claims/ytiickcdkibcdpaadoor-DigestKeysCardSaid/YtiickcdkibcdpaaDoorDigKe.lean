/-
  The law DigestKeys returns true. Conditions: strings take at most 2^47 - 4096 bytes; the packages' variables hold what their texts lay.
-/
import Derived.Test.YtiickcdkibcdpaaDoorDigKh
namespace Go.Proofs.YtiickcdkibcdpaaDoor
open Go.RowKit Go.Joins

set_option maxRecDepth 100000 in
set_option maxHeartbeats 1000000 in
theorem keys_any (key s : ByteArray) (hk : key.size ≤ 140737488351232) (hs : s.size ≤ 140737488351232) (w : World) (hv : VO w) (hr : RO w) : Calls Tryd.prog 4 #[.string key, .string s] w (Gives (.bool true) w) := by
  have AW := hide (awake_any w hv)
  have MP := hide (fun W (h : Below w.heap.size w W) => hmac_any key s (by omega) (by omega) W (hv.step h))
  have MD := hide (fun W (h : Below w.heap.size w W) => rhmac_any key s (by omega) (by omega) W (hr.step h))
  generalize hmacL key.data.toList s.data.toList = m at *
  go_enter Tryd.func4, Tryd.ntmps4
  go_wp2_with fail
  refine AW.out.mono ?_
  rintro e w1 ⟨rfl, hb⟩
  go_wp2_with fail
  refine (MP.out _ hb).mono ?_
  rintro e w2 ⟨rfl, hb2⟩
  have HB2 := chain hb hb2
  go_wp2_with fail
  refine (MD.out _ HB2).mono ?_
  rintro e w3 ⟨rfl, hb3⟩
  have HB3 := chain HB2 hb3
  go_wp2
  go_ret
  exact ⟨rfl, HB3⟩
end Go.Proofs.YtiickcdkibcdpaaDoor
