/-
  The library's own contracts on slices.Sorted(maps.Keys(m)), laid at this program. No condition beyond those in each theorem's own statement.
-/
import Derived.Shelf.SlIter.Nil
import Derived.Shelf.SortM.Plain
import Derived.Shelf.SortM.SortNone
import Derived.Ground.GgzProg
import Derived.Ground.SlgmProg
import Derived.Test.YtplnfbhjplbpiaaProg
import Derived.Test.YtplnfbhjplbpiaaFilIt0
namespace Go.Proofs
open Go.RowKit Go.Maps Go.Sort Go.Shelf
namespace Ytplnfbhjplbpiaa

/-- both contracts of slices.Sort that slices.Sorted leans on -/
theorem sorts_at (m : Nat) : AnyZ.SortsIn Try.prog Try.sortedA_ren Fence.wide m :=
  And.intro (fun _ _ _ _ _ hH hl hs => callsIn_wide.2 (AnyM.slices_Sort_string Try.sortA _ _ _ _ _ hH hl hs)) (fun _ _ _ => callsIn_wide.2 (AnyM.slices_Sort_string_none Try.sortA _ _ _))
theorem keys_at (mb : Option Nat) (W : World) : CallsIn Fence.wide 5 Try.prog 41 #[.map mb] W
    fun e w' => e = .returned (.func (.func 54) #[] #[.pointer (some ⟨W.heap.size, 0, none⟩)]) ∧ w' = W.alloc (.cells #[.map mb] 52) :=
  AnyZ.keys_in Try.keysA Fence.wide 5 trivial rfl mb W
set_option maxHeartbeats 1000000 in
theorem sorted_at {H : Type} {R : Value → Option (DataW H × List MemPlace)} {D : DataW H} {m n : Nat} (w : World) (hown : w.ownsMap Try.prog 9 R m n D) (hs : Maps.size D ≤ 1000) :
    CallsIn Fence.wide 5 Try.prog 40 #[.func (.func 54) #[] #[.pointer (some ⟨w.heap.size, 0, none⟩)]] (w.alloc (.cells #[.map (some m)] 52))
      fun e w' => ∃ (v : Value) (ss : List (List UInt8)), e = .returned v ∧ ss.Perm (strKeys D) ∧ w'.ownsRow (w.alloc (.cells #[.map (some m)] 52)).heap.size 9 1 v ss.length ((ss.mergeSort (fun x y => decide (x ≤ y))).map encStr) ∧
        (v = .slice none 0 0 ↔ ss = []) ∧ Below (w.alloc (.cells #[.map (some m)] 52)).heap.size (w.alloc (.cells #[.map (some m)] 52)) w' := by
  have hseq : SeqGives Fence.wide 2 Try.prog 54 #[.pointer (some ⟨w.heap.size, 0, none⟩)] encStr (fun ss => ss.Perm (strKeys D)) (Maps.size D) (w.alloc (.cells #[.map (some m)] 52)) :=
    AnyZ.keys_gives (ρ := Try.keysA_ren) { Try.keysA with } Fence.wide _ trivial rfl (by omega) w.heap.size m n D _ (by simp) (by simp) (hown.alloc _)
  exact AnyZ.sorted_in Try.sortedA Fence.wide 5 trivial trivial trivial trivial rfl (by omega) (sorts_at _) (enters_of Try.func53 (by kernel_rfl) rfl) 54 #[.pointer (some ⟨w.heap.size, 0, none⟩)] trivial
    (enters_of Try.func54 (by kernel_rfl) rfl) _ _ (by unfold maxLen; omega) (by omega) _ hseq
end Ytplnfbhjplbpiaa
end Go.Proofs
