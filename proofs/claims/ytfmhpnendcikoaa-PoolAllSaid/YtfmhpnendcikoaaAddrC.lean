/-
  Contracts of the calls on addresses (bit, with, Add, Sub, Cmp, Up, Down, tail, Of4): what each returns for every address of 128 bits, and that no memory that existed is changed. Condition of each: the words are words of 64 bits (every value of the type is such).
-/
import Derived.Test.YtfmhpnendcikoaaSpanCn
import Derived.Test.YtfmhpnendcikoaaAddrW
import Derived.WalkKit
import Derived.WalkSpells
import Derived.WalkLawsBesides
import Derived.Laws.Externs
import Derived.RegionTactic
import Derived.ChangeAlike
namespace Go.Proofs.Ytfmhpnendcikoaa
open Go.RowKit
set_option maxHeartbeats 400000 in
theorem bit_any {a : Nat} (ha : Fits a) (i : Int) (h0 : 0 ≤ i) (h1 : i < 128) (w : World) :
    Calls Try.prog 67 #[A a, .int .i64 i] w (Gives (.int .u64 (bitS a i.toNat : Nat)) w) := by
  by_cases h : i < 64
  · go_enter Try.func67, Try.ntmps67
    go_wp2
    go_ret
    exact ⟨congrArg Ending.returned (u64_eq (w_bit_hi ha h0 h)), (Below.refl _ _).alloc (Nat.le_refl _) _⟩
  · go_enter Try.func67, Try.ntmps67
    go_wp2
    go_ret
    exact ⟨congrArg Ending.returned (u64_eq (w_bit_lo a (by omega) h1)), (Below.refl _ _).alloc (Nat.le_refl _) _⟩

/-! ### sums and differences -/
end Go.Proofs.Ytfmhpnendcikoaa
