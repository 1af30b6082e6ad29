/-
  The contract of the law's same: equal lists are the same. Conditions: a slice has fewer than 2^63 elements.
-/
import Derived.Test.YtgioifdmmneapaaLK
import Derived.Test.YtgioifdmmneapaaLFn
namespace Go.Proofs.Ytgioifdmmneapaa
open Go.RowKit Go.Joins

set_option maxRecDepth 100000 in
set_option maxHeartbeats 2000000 in
theorem same_any (p q : Option Go.Addr) (c d : Nat) (l : List Ch) (hm : l.length ≤ maxLen) (w : World) (hp : LstC p l w) (hq : LstC q l w) :
    Calls Try.prog 24 #[.slice p l.length c, .slice q l.length d] w (Gives (.bool true) w) := by
  have HM := hm
  unfold maxLen at HM
  have HP := hide hp
  have HQ := hide hq
  clear hp hq
  go_enter Try.func24, Try.ntmps24
  go_wp2_with fail
  go_loopw [5] (fun i wr => ∃ k : Nat, k ≤ l.length ∧ i = .int .i64 (k : Nat) ∧ Below w.heap.size w wr) (fun i _ => l.length - (intOf i).toNat)
  case atStart => exact ⟨0, Nat.zero_le _, rfl, Below.refl _ _⟩
  case round =>
    obtain ⟨k, hk, rfl, HB⟩ := hrel
    by_cases hlt : k < l.length
    · obtain ⟨x, hx⟩ := get_some hlt
      obtain ⟨b, o, rfl, x0, x1, x2, x3, x4, x5, x6, x7, x8⟩ := HP.out.step HB k x hx
      obtain ⟨b2, o2, rfl, y0, y1, y2, y3, y4, y5, y6, y7, y8⟩ := HQ.out.step HB k x hx
      have hlt2 : (k : Int) < (l.length : Int) := by omega
      have hk0 : (0 : Int) ≤ (k : Int) := by omega
      clear hx
      go_wp2_with fail
      go_quiet (fail)
      go_wp2
      go_roundw
      case rel => exact ⟨k + 1, hlt, by go_num, HB.trans ((below_drewN wr _).mono HB.size)⟩
      case measure => simp [intOf]; omega
    · have hlt2 : ¬ (k : Int) < (l.length : Int) := by omega
      go_wp2
      go_ret
      exact ⟨rfl, HB⟩
end Go.Proofs.Ytgioifdmmneapaa
