/-
  The contract of awake: it returns true. Condition: the package's variables hold what its text lays.
-/
import Derived.Test.YtiickcdkibcdpaaDoorDigH
namespace Go.Proofs.YtiickcdkibcdpaaDoor
open Go.RowKit Go.Joins

theorem k_crc : crcL [49, 50, 51, 52, 53, 54, 55, 56, 57] = 3421780262 := by decide +kernel
theorem k_md5 : md5L [97, 98, 99] = [144, 1, 80, 152, 60, 210, 79, 176, 214, 150, 63, 125, 40, 225, 127, 114] := by decide +kernel
theorem k_hmac : hmacL [74, 101, 102, 101] [119, 104, 97, 116, 32, 100, 111, 32, 121, 97, 32, 119, 97, 110, 116, 32, 102, 111, 114, 32, 110, 111, 116, 104, 105, 110, 103, 63] = [117, 12, 120, 62, 106, 176, 181, 3, 234, 168, 110, 49, 10, 93, 183, 56] := by decide +kernel
set_option maxRecDepth 100000 in
set_option maxHeartbeats 1000000 in
theorem awake_any (w : World) (hv : VO w) : Calls Tryd.prog 8 #[] w (Gives (.bool true) w) := by
  have C := hide (show ∀ W, Calls Tryd.prog 9 #[.string ⟨#[49, 50, 51, 52, 53, 54, 55, 56, 57]⟩] W (Same (.int .u32 3421780262) W) from fun W => by
    have h := crc_any ⟨#[49, 50, 51, 52, 53, 54, 55, 56, 57]⟩ (show 9 ≤ maxLen by unfold maxLen; omega) W
    rw [show (ByteArray.mk #[49, 50, 51, 52, 53, 54, 55, 56, 57]).data.toList = [49, 50, 51, 52, 53, 54, 55, 56, 57] from rfl, k_crc] at h
    exact h)
  have M := hide (fun W h => md5_any ⟨#[97, 98, 99]⟩ (show 3 ≤ 140737488354000 by omega) W h)
  rw [show (ByteArray.mk #[97, 98, 99]).data.toList = [97, 98, 99] from rfl, k_md5] at M
  have H := hide (fun W h => hmac_any ⟨#[74, 101, 102, 101]⟩ ⟨#[119, 104, 97, 116, 32, 100, 111, 32, 121, 97, 32, 119, 97, 110, 116, 32, 102, 111, 114, 32, 110, 111, 116, 104, 105, 110, 103, 63]⟩ (show 4 ≤ 140737488353000 by omega) (show 28 ≤ 140737488353000 by omega) W h)
  rw [show (ByteArray.mk #[74, 101, 102, 101]).data.toList = [74, 101, 102, 101] from rfl, show (ByteArray.mk #[119, 104, 97, 116, 32, 100, 111, 32, 121, 97, 32, 119, 97, 110, 116, 32, 102, 111, 114, 32, 110, 111, 116, 104, 105, 110, 103, 63]).data.toList = [119, 104, 97, 116, 32, 100, 111, 32, 121, 97, 32, 119, 97, 110, 116, 32, 102, 111, 114, 32, 110, 111, 116, 104, 105, 110, 103, 63] from rfl, k_hmac] at H
  go_enter Tryd.func8, Tryd.ntmps8
  go_wp2_with fail
  refine (C.out _).mono ?_
  rintro e w' ⟨rfl, rfl⟩
  go_wp2_with fail
  refine (M.out _ hv).mono ?_
  rintro e w1 ⟨rfl, hb1⟩
  have V1 := hv.step hb1
  go_wp2_with fail
  refine (H.out _ V1).mono ?_
  rintro e w2 ⟨rfl, hb2⟩
  have HB := chain hb1 hb2
  go_wp2
  go_ret
  exact ⟨rfl, HB⟩
end Go.Proofs.YtiickcdkibcdpaaDoor
