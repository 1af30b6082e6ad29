/-
  What the laid variables of a row give the walks of the document's own MD5: its sines and shifts. No condition.
-/
import Derived.Test.YtiickcdkibcdpaaDoorDigRow
import Derived.Test.YtiickcdkibcdpaaDoorDigU
namespace Go.Proofs.YtiickcdkibcdpaaDoor
open Go.RowKit Go.Joins

theorem laid_rsines {W : World} (h : laidMet Tryd.prog [("tenancy/tenancyref05.sines", Rows.laid_tenancy_tenancyref05_sines)] W) (j : Nat) (hj : j < 64) : W.cell? ⟨1, j, none⟩ = some (U (sine j)) := by
  have t := Lib.tabIs_of_head (P := Tryd.prog) (W := W) (name := "tenancy/tenancyref05.sines") (zs := castL sinesL) (g := 1) (rest := []) (by kernel_rfl) (by kernel_rfl) Tryd.underlying43 Tryd.underlying23 (by kernel_rfl) (by kernel_rfl) (show laidMet Tryd.prog [("tenancy/tenancyref05.sines", Lib.tabData .u32 (castL sinesL))] W from h)
  rw [t.cell (by kernel_rfl) j hj, castL_at]; rfl
theorem laid_rshifts {W : World} (h : laidMet Tryd.prog [("tenancy/tenancyref05.shifts", Rows.laid_tenancy_tenancyref05_shifts)] W) (j : Nat) (hj : j < 16) : W.cell? ⟨2, j, none⟩ = some (.int .u64 (turn j : Nat)) := by
  have t := Lib.tabIs_of_head (P := Tryd.prog) (W := W) (name := "tenancy/tenancyref05.shifts") (zs := castL turnsL) (g := 2) (rest := []) (by kernel_rfl) (by kernel_rfl) Tryd.underlying44 Tryd.underlying30 (by kernel_rfl) (by kernel_rfl) (show laidMet Tryd.prog [("tenancy/tenancyref05.shifts", Lib.tabData .u64 (castL turnsL))] W from h)
  rw [t.cell (by kernel_rfl) j hj, castL_at]; rfl
theorem ro5 {W : World} (h : laidMetH Tryd.prog Rows.digestSumsRow.laid W) : RO W := by
  rw [MakeChecks.laidMetH_plain _ _ _ (by kernel_rfl)] at h
  exact ⟨fun j hj => laid_rsines (laid_one h (by kernel_rfl)) j hj, fun j hj => laid_rshifts (laid_one h (by kernel_rfl)) j hj⟩
end Go.Proofs.YtiickcdkibcdpaaDoor
