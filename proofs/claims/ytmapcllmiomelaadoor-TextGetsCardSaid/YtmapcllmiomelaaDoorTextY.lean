/-
  The values that awake asks for, computed. No condition.
-/
import Derived.Test.YtmapcllmiomelaaDoorTextX
import Derived.Test.YtmapcllmiomelaaDoorTextU
namespace Go.Proofs.YtmapcllmiomelaaDoor
open Go.RowKit Go.Joins

theorem v_num : gnum [49, 50] = some 12 := by kernel_rfl
theorem v_get4 : get4 ⟨#[49, 57, 50, 46, 49, 54, 56, 46, 49, 46, 53]⟩ = some 3232235781 := by kernel_rfl
theorem v_get6 : get6 ⟨#[0x32, 0x30, 0x30, 0x31, 0x3a, 0x44, 0x42, 0x38, 0x3a, 0x3a, 0x31, 0x3a, 0x30, 0x3a, 0x30, 0x3a, 0x31]⟩ = some 42540766411282592856904266426630537217 := by kernel_rfl
theorem v_put4 : put4 3232235781 = [49, 57, 50, 46, 49, 54, 56, 46, 49, 46, 53] := by kernel_rfl
theorem v_put6 : put6L 42540766411282592856904266426630537217 = [0x32, 0x30, 0x30, 0x31, 0x3a, 0x64, 0x62, 0x38, 0x3a, 0x3a, 0x31, 0x3a, 0x30, 0x3a, 0x30, 0x3a, 0x31] := by kernel_rfl
theorem v_gpO : gpO 4 ⟨#[0x31, 0x30, 0x2e, 0x30, 0x2e, 0x30, 0x2e, 0x30, 0x2f, 0x38]⟩ = true := by kernel_rfl
theorem v_itoa : Lib.itoa (-3) = [45, 51] := by kernel_rfl
theorem v_hex : hexL [255] = [102, 102] := by kernel_rfl
theorem v_unhex : unhexL [48, 48, 102, 102] = some [0, 255] := by kernel_rfl
theorem v_hi : hi 42540766411282592856904266426630537217 = 2306139568115548160 ∧ lo 42540766411282592856904266426630537217 = 281474976710657 := by decide
theorem v_unV : unV [48, 48, 102, 102] = [0, 255] := by kernel_rfl
theorem v_unO : unO [48, 48, 102, 102] = true := by kernel_rfl
theorem v_gpN : gpN 4 ⟨#[0x31, 0x30, 0x2e, 0x30, 0x2e, 0x30, 0x2e, 0x30, 0x2f, 0x38]⟩ = 104 := by kernel_rfl
theorem v_gpA : gV 4 (slL ⟨#[0x31, 0x30, 0x2e, 0x30, 0x2e, 0x30, 0x2e, 0x30, 0x2f, 0x38]⟩) = 167772160 := by kernel_rfl
end Go.Proofs.YtmapcllmiomelaaDoor
