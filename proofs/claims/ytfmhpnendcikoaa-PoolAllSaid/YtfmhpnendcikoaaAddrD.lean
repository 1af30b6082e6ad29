/-
  Contracts of the calls on addresses (Compare, Cmp, Up, Down, tail, Of4, To4): what each returns for every address of 128 bits, and that no memory that existed is changed. Condition of each: the words are words of 64 bits (every value of the type is such), an int is an int of 64 bits.
-/
import Derived.Test.YtfmhpnendcikoaaAddrC
import Derived.Test.YtfmhpnendcikoaaAddrP
namespace Go.Proofs.Ytfmhpnendcikoaa
open Go.RowKit

/-! ### shifts -/
theorem wrap_sub {n : Int} (h : 64 ≤ n) (h2 : n ≤ 9223372036854775807) : wrap64 (n - 64) = n - 64 := IntWalk.wrap64_in _ ⟨by omega, by omega⟩

theorem wrap_big (x k : Nat) : IntKind.u64.wrap ((x : Int) * 2 ^ min (k + 64) 64) = 0 := by
  rw [show min (k + 64) 64 = 64 by omega, IntKind.wrap_u64]
  omega
theorem div_big {x : Nat} (h : x < 18446744073709551616) (k : Nat) : (x : Int) / 2 ^ min (k + 64) 64 = 0 := by
  rw [show min (k + 64) 64 = 64 by omega, cast_div, Nat.div_eq_of_lt h]
  rfl

/-- an int that is not beyond the greatest one -/
def I63 (n : Int) : Prop := n ≤ 9223372036854775807

theorem shl_far {x : Nat} (n : Int) (h : 128 ≤ n) (h2 : I63 n) (w : World) :
    (Op.shift BinOp.shl IntKind.u64 (x : Nat) IntKind.i64 (wrap64 (n - 64))).run Try.prog w = .ok (.int .u64 0) w := by
  rw [wrap_sub (by omega) h2, shift_shl_any _ _ _ _ (by omega)]
  have e := wrap_big x (n.toNat - 128)
  rw [show n.toNat - 128 + 64 = (n - 64).toNat by omega] at e
  simp only [IntKind.bits, e]
  rfl
theorem shr_far {x : Nat} (hx : x < 18446744073709551616) (n : Int) (h : 128 ≤ n) (h2 : I63 n) (w : World) :
    (Op.shift BinOp.shr IntKind.u64 (x : Nat) IntKind.i64 (wrap64 (n - 64))).run Try.prog w = .ok (.int .u64 0) w := by
  rw [wrap_sub (by omega) h2, shift_shr_any _ _ _ _ (by omega)]
  have e := div_big hx (n.toNat - 128)
  rw [show n.toNat - 128 + 64 = (n - 64).toNat by omega] at e
  simp only [IntKind.bits, e]
  rfl

set_option maxHeartbeats 400000 in
theorem up_any {a : Nat} (ha : Fits a) (n : Int) (hn : I63 n) (w : World) :
    Calls Try.prog 71 #[A a, .int .i64 n] w (Gives (A (upS a n.toNat)) w) := by
  by_cases h0 : n ≤ 0
  · have H := hide (upS_none ha)
    have E : n.toNat = 0 := by omega
    rw [E]
    clear E
    go_enter Try.func71, Try.ntmps71
    go_wp2
    exact bodyPost_ret (v := A (upS a 0)) (by simp [results, Try.results71, go_sem, H.out]) rfl ⟨rfl, ((Below.refl _ _).alloc (Nat.le_refl _) _).alloc (by simp) _⟩
  by_cases h1 : n < 64
  · have h0 : 0 < n := by omega
    go_enter Try.func71, Try.ntmps71
    go_wp2
    go_region
    go_wp2
    exact bodyPost_ret (v := A (upS a n.toNat)) (by simp [results, Try.results71, go_sem, w_up_hi a h0 h1, w_up_lo]) rfl ⟨rfl, (((Below.refl _ _).alloc (Nat.le_refl _) _).alloc (by simp) _).drew⟩
  by_cases h2 : n < 128
  · have h1 : 64 ≤ n := by omega
    have h0 : 0 < n := by omega
    have H := hide (w_up_big a h1)
    have K := hide (lo_up_big (a := a) (show 64 ≤ n.toNat by omega))
    go_enter Try.func71, Try.ntmps71
    go_wp2
    exact bodyPost_ret (v := A (upS a n.toNat)) (by simp [results, Try.results71, go_sem, H.out, K.out]) rfl ⟨rfl, ((Below.refl _ _).alloc (Nat.le_refl _) _).alloc (by simp) _⟩
  · have h1 : 64 ≤ n := by omega
    have h0 : 0 < n := by omega
    have K := hide (upS_zero (a := a) (show 128 ≤ n.toNat by omega))
    have S := shl_far (x := lo a) n (by omega) hn
    go_enter Try.func71, Try.ntmps71
    go_wp2
    exact bodyPost_ret (v := A (upS a n.toNat)) (by simp [results, Try.results71, go_sem, K.out, hi_zero, lo_zero]) rfl ⟨rfl, ((Below.refl _ _).alloc (Nat.le_refl _) _).alloc (by simp) _⟩

/-! ### addresses of 32 bits -/
theorem hi_small {n : Nat} (h : n < 18446744073709551616) : hi n = 0 := by unfold hi; omega
theorem lo_small {n : Nat} (h : n < 18446744073709551616) : lo n = n := by unfold lo; omega
def to4S (a : Nat) : Nat := if a < 4294967296 then a else 0
def to4O (a : Nat) : Bool := decide (a < 4294967296)
end Go.Proofs.Ytfmhpnendcikoaa
