/-
  The tied card of TextGets.
-/
import Derived.Test.YtmapcllmiomelaaDoorTextGR
import Derived.Test.YtmapcllmiomelaaDoorCards
import Derived.SevenTiedAt
namespace Go.Proofs.YtmapcllmiomelaaDoor
open Go

theorem textGetsCard_holds : Rows.TextGetsCardSaid :=
  Claim7.holds_tied_plain_at .later [] [.data, .data, .data, .data, .sentinel, .sentinel, .pinned] true (true, "0accbfbdf65e3cc9ccf963ac9b60ddbd7cd75b17b90ece5a38eba7610c83364c") true
    textGets_holds (fun _ h => by cases h) (by kernel_rfl) (fun _ h => by cases h) textGets_row_tie rfl ⟨rfl, rfl⟩ (by kernel_rfl) rfl
    (fun f fn hf hfn => by
      obtain rfl : f = 3 := Option.some.inj ((show Tryd.prog.funcNamed "tenancy/tenancylaw02.TextGets" = some 3 by kernel_rfl).symm.trans hf) |>.symm
      obtain rfl : fn = Tryd.f3 := (Option.some.inj (Tryd.func3.symm.trans hfn)).symm
      exact ⟨by kernel_rfl, fun j t ht => by
        rw [Tryd.params3] at ht
        have hm : t ∈ [3, 9] := by simpa using Array.mem_of_getElem? ht
        have hall : ([3, 9].all fun u => !Tryd.prog.wantsStandIn u) = true := by kernel_rfl
        exact (show Tryd.prog.wantsStandIn t = false by simpa using List.all_eq_true.1 hall t hm)⟩)
    (by kernel_rfl)
end Go.Proofs.YtmapcllmiomelaaDoor
