/-
  The tied card of DigestBits.
-/
import Derived.Test.YtiickcdkibcdpaaDoorDigBiR
import Derived.Test.YtiickcdkibcdpaaDoorCards
import Derived.SevenTiedAt
namespace Go.Proofs.YtiickcdkibcdpaaDoor
open Go

theorem digestBitsCard_holds : Rows.DigestBitsCardSaid :=
  Claim7.holds_tied_plain_at .later [] [.data, .data, .data] true (true, "aa5b608d86952bd0711dae61d89e4800522ccd5fe09335bbf2e60e5717b29a84") false
    digestBits_holds (fun _ h => by cases h) (by kernel_rfl) (fun _ h => by cases h) digestBits_row_tie rfl ⟨rfl, rfl⟩ (by kernel_rfl) rfl
    (fun f fn hf hfn => by
      obtain rfl : f = 6 := Option.some.inj ((show Tryd.prog.funcNamed "tenancy/tenancylaw05.DigestBits" = some 6 by kernel_rfl).symm.trans hf) |>.symm
      obtain rfl : fn = Tryd.f6 := (Option.some.inj (Tryd.func6.symm.trans hfn)).symm
      exact ⟨by kernel_rfl, fun j t ht => by
        rw [Tryd.params6] at ht
        have hm : t ∈ [9, 3, 23] := by simpa using Array.mem_of_getElem? ht
        have hall : ([9, 3, 23].all fun u => !Tryd.prog.wantsStandIn u) = true := by kernel_rfl
        exact (show Tryd.prog.wantsStandIn t = false by simpa using List.all_eq_true.1 hall t hm)⟩)
    (by kernel_rfl)
end Go.Proofs.YtiickcdkibcdpaaDoor
