/-
  The tied card of DigestKeys.
-/
import Derived.Test.YtiickcdkibcdpaaDoorDigKeR
import Derived.Test.YtiickcdkibcdpaaDoorCards
import Derived.SevenTiedAt
namespace Go.Proofs.YtiickcdkibcdpaaDoor
open Go

theorem digestKeysCard_holds : Rows.DigestKeysCardSaid :=
  Claim7.holds_tied_plain_at .later [] [.data, .data, .data, .data, .data] true (true, "aa5b608d86952bd0711dae61d89e4800522ccd5fe09335bbf2e60e5717b29a84") false
    digestKeys_holds (fun _ h => by cases h) (by kernel_rfl) (fun _ h => by cases h) digestKeys_row_tie rfl ⟨rfl, rfl⟩ (by kernel_rfl) rfl
    (fun f fn hf hfn => by
      obtain rfl : f = 4 := Option.some.inj ((show Tryd.prog.funcNamed "tenancy/tenancylaw05.DigestKeys" = some 4 by kernel_rfl).symm.trans hf) |>.symm
      obtain rfl : fn = Tryd.f4 := (Option.some.inj (Tryd.func4.symm.trans hfn)).symm
      exact ⟨by kernel_rfl, fun j t ht => by
        rw [Tryd.params4] at ht
        have hm : t ∈ [9, 9] := by simpa using Array.mem_of_getElem? ht
        have hall : ([9, 9].all fun u => !Tryd.prog.wantsStandIn u) = true := by kernel_rfl
        exact (show Tryd.prog.wantsStandIn t = false by simpa using List.all_eq_true.1 hall t hm)⟩)
    (by kernel_rfl)
end Go.Proofs.YtiickcdkibcdpaaDoor
