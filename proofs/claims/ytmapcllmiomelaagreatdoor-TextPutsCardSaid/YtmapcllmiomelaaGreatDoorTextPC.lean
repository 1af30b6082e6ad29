/-
  The tied card of TextPuts.
-/
import Derived.Test.YtmapcllmiomelaaGreatDoorTextPR
import Derived.Test.YtmapcllmiomelaaGreatDoorCards
import Derived.SevenTiedAt
namespace Go.Proofs.YtmapcllmiomelaaGreatDoor
open Go

theorem textPutsCard_holds : Rows.TextPutsCardSaid :=
  Claim7.holds_tied_plain_at .later [] [.data, .data, .data, .data, .sentinel, .sentinel, .pinned] true (true, "54d828872690ceba8c0d6fba2277df0beba45757d67c563033e8ce35faf822fc") true
    textPuts_holds (fun _ h => by cases h) (by kernel_rfl) (fun _ h => by cases h) textPuts_row_tie rfl ⟨rfl, rfl⟩ (by kernel_rfl) rfl
    (fun f fn hf hfn => by
      obtain rfl : f = 3 := Option.some.inj ((show Tryz.prog.funcNamed "tenancy/tenancylaw02.TextPuts" = some 3 by kernel_rfl).symm.trans hf) |>.symm
      obtain rfl : fn = Tryz.f3 := (Option.some.inj (Tryz.func3.symm.trans hfn)).symm
      exact ⟨by kernel_rfl, fun j t ht => by
        rw [Tryz.params3] at ht
        have hm : t ∈ [3, 26, 9] := by simpa using Array.mem_of_getElem? ht
        have hall : ([3, 26, 9].all fun u => !Tryz.prog.wantsStandIn u) = true := by kernel_rfl
        exact (show Tryz.prog.wantsStandIn t = false by simpa using List.all_eq_true.1 hall t hm)⟩)
    (by kernel_rfl)
end Go.Proofs.YtmapcllmiomelaaGreatDoor
