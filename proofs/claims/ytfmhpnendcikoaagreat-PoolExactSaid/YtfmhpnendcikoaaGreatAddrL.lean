/-
  Contracts of the calls on addresses (bit, with, Add, Sub, Cmp, Up, Down, tail, Of4): what each returns for every address of 128 bits, and that no memory that existed is changed. Condition of each: the words are words of 64 bits (every value of the type is such).
  Contracts of the calls on addresses (Compare, Cmp, Up, Down, tail, Of4, To4): what each returns for every address of 128 bits, and that no memory that existed is changed. Condition of each: the words are words of 64 bits (every value of the type is such), an int is an int of 64 bits.
  Contracts of Len64 and LeadingZeros64: the number of bits of a word, for every word of 64 bits; the world stays as it is.
-/
import Derived.Test.YtfmhpnendcikoaaGreatSpanLm
import Derived.Test.YtfmhpnendcikoaaGreatAddrP
import Derived.WalkKit
import Derived.WalkSpells
import Derived.WalkLawsBesides
import Derived.Laws.Externs
import Derived.RegionTactic
import Derived.ChangeAlike
import Derived.Lib.Strings
import Derived.Lib.Slices
import Derived.Lib.Small
import Derived.Lib.Walk
import Derived.Lib.BitFns
namespace Go.Proofs.YtfmhpnendcikoaaGreat
open Go.RowKit
set_option maxHeartbeats 400000 in
theorem bit_any {a : Nat} (ha : Fits a) (i : Int) (h0 : 0 ≤ i) (h1 : i < 128) (w : World) :
    Calls Tryz.prog 55 #[A a, .int .i64 i] w (Gives (.int .u64 (bitS a i.toNat : Nat)) w) := by
  by_cases h : i < 64
  · go_enter Tryz.func55, Tryz.ntmps55
    go_wp2
    go_ret
    exact ⟨congrArg Ending.returned (u64_eq (w_bit_hi ha h0 h)), (Below.refl _ _).alloc (Nat.le_refl _) _⟩
  · go_enter Tryz.func55, Tryz.ntmps55
    go_wp2
    go_ret
    exact ⟨congrArg Ending.returned (u64_eq (w_bit_lo a (by omega) h1)), (Below.refl _ _).alloc (Nat.le_refl _) _⟩

set_option maxHeartbeats 400000 in
theorem with_any {a : Nat} (ha : Fits a) (i : Int) (h0 : 0 ≤ i) (h1 : i < 128) (w : World) :
    Calls Tryz.prog 57 #[A a, .int .i64 i] w (Gives (A (withS a i.toNat)) w) := by
  by_cases h : i < 64
  · have e := lo_withS' a (show i.toNat < 64 by omega)
    have H := hide e
    clear e
    go_enter Tryz.func57, Tryz.ntmps57
    go_wp2
    exact bodyPost_ret (v := A (withS a i.toNat)) (by simp [results, Tryz.results57, go_sem, w_with_hi ha h0 h, ← H.out]) rfl ⟨rfl, ((Below.refl _ _).alloc (Nat.le_refl _) _).alloc (by simp) _⟩
  · have e := hi_withS' a (show 64 ≤ i.toNat by omega) (by omega)
    have H := hide e
    clear e
    go_enter Tryz.func57, Tryz.ntmps57
    go_wp2
    exact bodyPost_ret (v := A (withS a i.toNat)) (by simp [results, Tryz.results57, go_sem, w_with_lo a (by omega) h1, ← H.out]) rfl ⟨rfl, ((Below.refl _ _).alloc (Nat.le_refl _) _).alloc (by simp) _⟩

/-! ### sums and differences -/
end Go.Proofs.YtfmhpnendcikoaaGreat
namespace Go.Proofs.YtfmhpnendcikoaaGreat
open Go.RowKit

/-! ### shifts -/
theorem wrap_sub {n : Int} (h : 64 ≤ n) (h2 : n ≤ 9223372036854775807) : wrap64 (n - 64) = n - 64 := IntWalk.wrap64_in _ ⟨by omega, by omega⟩

theorem wrap_big (x k : Nat) : IntKind.u64.wrap ((x : Int) * 2 ^ min (k + 64) 64) = 0 := by
  rw [show min (k + 64) 64 = 64 by omega, IntKind.wrap_u64]
  omega
theorem div_big {x : Nat} (h : x < 18446744073709551616) (k : Nat) : (x : Int) / 2 ^ min (k + 64) 64 = 0 := by
  rw [show min (k + 64) 64 = 64 by omega, cast_div, Nat.div_eq_of_lt h]
  rfl

/-- an int that is not beyond the greatest one -/
def I63 (n : Int) : Prop := n ≤ 9223372036854775807

theorem shl_far {x : Nat} (n : Int) (h : 128 ≤ n) (h2 : I63 n) (w : World) :
    (Op.shift BinOp.shl IntKind.u64 (x : Nat) IntKind.i64 (wrap64 (n - 64))).run Tryz.prog w = .ok (.int .u64 0) w := by
  rw [wrap_sub (by omega) h2, shift_shl_any _ _ _ _ (by omega)]
  have e := wrap_big x (n.toNat - 128)
  rw [show n.toNat - 128 + 64 = (n - 64).toNat by omega] at e
  simp only [IntKind.bits, e]
  rfl
theorem shr_far {x : Nat} (hx : x < 18446744073709551616) (n : Int) (h : 128 ≤ n) (h2 : I63 n) (w : World) :
    (Op.shift BinOp.shr IntKind.u64 (x : Nat) IntKind.i64 (wrap64 (n - 64))).run Tryz.prog w = .ok (.int .u64 0) w := by
  rw [wrap_sub (by omega) h2, shift_shr_any _ _ _ _ (by omega)]
  have e := div_big hx (n.toNat - 128)
  rw [show n.toNat - 128 + 64 = (n - 64).toNat by omega] at e
  simp only [IntKind.bits, e]
  rfl

set_option maxHeartbeats 400000 in
theorem up_any {a : Nat} (ha : Fits a) (n : Int) (hn : I63 n) (w : World) :
    Calls Tryz.prog 74 #[A a, .int .i64 n] w (Gives (A (upS a n.toNat)) w) := by
  by_cases h0 : n ≤ 0
  · have H := hide (upS_none ha)
    have E : n.toNat = 0 := by omega
    rw [E]
    clear E
    go_enter Tryz.func74, Tryz.ntmps74
    go_wp2
    exact bodyPost_ret (v := A (upS a 0)) (by simp [results, Tryz.results74, go_sem, H.out]) rfl ⟨rfl, ((Below.refl _ _).alloc (Nat.le_refl _) _).alloc (by simp) _⟩
  by_cases h1 : n < 64
  · have h0 : 0 < n := by omega
    go_enter Tryz.func74, Tryz.ntmps74
    go_wp2
    go_region
    go_wp2
    exact bodyPost_ret (v := A (upS a n.toNat)) (by simp [results, Tryz.results74, go_sem, w_up_hi a h0 h1, w_up_lo]) rfl ⟨rfl, (((Below.refl _ _).alloc (Nat.le_refl _) _).alloc (by simp) _).drew⟩
  by_cases h2 : n < 128
  · have h1 : 64 ≤ n := by omega
    have h0 : 0 < n := by omega
    have H := hide (w_up_big a h1)
    have K := hide (lo_up_big (a := a) (show 64 ≤ n.toNat by omega))
    go_enter Tryz.func74, Tryz.ntmps74
    go_wp2
    exact bodyPost_ret (v := A (upS a n.toNat)) (by simp [results, Tryz.results74, go_sem, H.out, K.out]) rfl ⟨rfl, ((Below.refl _ _).alloc (Nat.le_refl _) _).alloc (by simp) _⟩
  · have h1 : 64 ≤ n := by omega
    have h0 : 0 < n := by omega
    have K := hide (upS_zero (a := a) (show 128 ≤ n.toNat by omega))
    have S := shl_far (x := lo a) n (by omega) hn
    go_enter Tryz.func74, Tryz.ntmps74
    go_wp2
    exact bodyPost_ret (v := A (upS a n.toNat)) (by simp [results, Tryz.results74, go_sem, K.out, hi_zero, lo_zero]) rfl ⟨rfl, ((Below.refl _ _).alloc (Nat.le_refl _) _).alloc (by simp) _⟩

/-! ### addresses of 32 bits -/
theorem hi_small {n : Nat} (h : n < 18446744073709551616) : hi n = 0 := by unfold hi; omega
theorem lo_small {n : Nat} (h : n < 18446744073709551616) : lo n = n := by unfold lo; omega
def to4S (a : Nat) : Nat := if a < 4294967296 then a else 0
def to4O (a : Nat) : Bool := decide (a < 4294967296)
end Go.Proofs.YtfmhpnendcikoaaGreat
namespace Go.Proofs.YtfmhpnendcikoaaGreat
open Go.RowKit

theorem tab_at (i : Int) (h0 : 0 ≤ i) (h1 : i ≤ 255) (W : World) : (Instr.index 9 (.string Lib.len8tab) (.int .u8 i)).run Tryz.prog W = .ok (.int .u8 (Lib.len8 i)) W :=
  Lib.run_index_len8tab W _ _ i Tryz.underlying9 h0 h1

theorem len_close {x i K : Int} (k : Nat) (hK : K = (k : Int)) (hk : 2 ^ k ≤ x.toNat) (hx : x.toNat < 2 ^ 64) (hi' : i.toNat = x.toNat / 2 ^ k) (h0 : 0 ≤ i) (h1 : i ≤ 255) (h2 : k ≤ 64) :
    wrap64 (K + wrap64 (Lib.len8 i)) = (Lib.bitLen x.toNat : Int) := by
  have e := Lib.bitLen_shift k x.toNat hk hx
  have l := Lib.bitLen_le8' i h0 h1
  rw [Lib.len8_of i h0 h1, hK, e, ← hi']
  rw [IntWalk.wrap64_in (Lib.bitLen i.toNat : Int) ⟨by omega, by omega⟩, IntWalk.wrap64_in _ ⟨by omega, by omega⟩]
  omega
theorem len_close0 {x : Int} (h0 : 0 ≤ x) (h1 : x ≤ 255) : wrap64 (wrap64 (Lib.len8 x)) = (Lib.bitLen x.toNat : Int) := by
  have l := Lib.bitLen_le8' x h0 h1
  rw [Lib.len8_of x h0 h1]
  rw [IntWalk.wrap64_in (Lib.bitLen x.toNat : Int) ⟨by omega, by omega⟩, IntWalk.wrap64_in _ ⟨by omega, by omega⟩]

set_option maxHeartbeats 4000000 in
set_option maxRecDepth 100000 in
theorem len64_any (x : Int) (w : World) (h0 : 0 ≤ x) (h1 : x ≤ 18446744073709551615) :
    Calls Tryz.prog 86 #[.int .u64 x] w fun e w' => e = .returned (.int .i64 (Lib.bitLen x.toNat)) ∧ w = w' := by
  have f0 := fun W (h : x < 256) => tab_at x h0 (by omega) W
  have f1 := fun W (h : x < 65536) => tab_at (x / 256) (by omega) (by omega) W
  have f2 := fun W (h : x / 65536 < 256) => tab_at (x / 65536) (by omega) (by omega) W
  have f3 := fun W (h : x < 4294967296) => tab_at (x / 65536 / 256) (by omega) (by omega) W
  have f4 := fun W (h : x / 4294967296 < 256) => tab_at (x / 4294967296) (by omega) (by omega) W
  have f5 := fun W (h : x / 4294967296 < 65536) => tab_at (x / 4294967296 / 256) (by omega) (by omega) W
  have f6 := fun W (h : x / 4294967296 / 65536 < 256) => tab_at (x / 4294967296 / 65536) (by omega) (by omega) W
  have f7 := tab_at (x / 4294967296 / 65536 / 256) (by omega) (by omega)
  go_enter Tryz.func86, Tryz.ntmps86
  go_wp2
  all_goals (go_ret; refine ⟨congrArg Ending.returned (congrArg (Value.int IntKind.i64) ?_), rfl⟩)
  all_goals clear f0 f1 f2 f3 f4 f5 f6 f7
  · exact len_close 56 rfl (by omega) (by omega) (by omega) (by omega) (by omega) (by omega)
  · exact len_close 48 rfl (by omega) (by omega) (by omega) (by omega) (by omega) (by omega)
  · exact len_close 40 rfl (by omega) (by omega) (by omega) (by omega) (by omega) (by omega)
  · exact len_close 32 rfl (by omega) (by omega) (by omega) (by omega) (by omega) (by omega)
  · exact len_close 24 rfl (by omega) (by omega) (by omega) (by omega) (by omega) (by omega)
  · exact len_close 16 rfl (by omega) (by omega) (by omega) (by omega) (by omega) (by omega)
  · exact len_close 8 rfl (by omega) (by omega) (by omega) (by omega) (by omega) (by omega)
  · exact len_close0 (by omega) (by omega)

theorem bitLen_le64 (x : Nat) : Lib.bitLen x ≤ 64 := by
  have h : ∀ f y, Lib.bitLenAux f y ≤ f := by
    intro f
    induction f with
    | zero => intro y; exact Nat.le_refl 0
    | succ f ih =>
      intro y
      unfold Lib.bitLenAux
      split
      · omega
      · have := ih (y / 2); omega
  exact h 64 x
/-- how far a word is from having its highest bit set -/
def lead (y : Nat) : Nat := 64 - Lib.bitLen y
theorem bitLenAux_spec (f : Nat) : ∀ y : Nat, 0 < y → y < 2 ^ f → 0 < Lib.bitLenAux f y ∧ 2 ^ (Lib.bitLenAux f y - 1) ≤ y ∧ y < 2 ^ Lib.bitLenAux f y := by
  induction f with
  | zero => intro y h0 h1; omega
  | succ f ih =>
    intro y h0 h1
    unfold Lib.bitLenAux
    rw [if_neg (by omega)]
    by_cases h2 : y / 2 = 0
    · have e : Lib.bitLenAux f (y / 2) = 0 := by
        rw [h2]; cases f with
        | zero => rfl
        | succ f => rfl
      rw [e]
      refine ⟨by omega, by simp; omega, by simp; omega⟩
    · have ⟨a, b, c⟩ := ih (y / 2) (by omega) (by rw [Nat.pow_succ] at h1; omega)
      generalize Lib.bitLenAux f (y / 2) = k at *
      obtain ⟨k, rfl⟩ : ∃ j, k = j + 1 := ⟨k - 1, by omega⟩
      rw [show 1 + (k + 1) = k + 1 + 1 by omega]
      refine ⟨by omega, ?_, ?_⟩
      · rw [show k + 1 + 1 - 1 = k + 1 by omega, Nat.pow_succ]
        rw [show k + 1 - 1 = k by omega] at b
        omega
      · rw [Nat.pow_succ]; omega
theorem lead_spec {y : Nat} (h0 : 0 < y) (h1 : y < 18446744073709551616) : lead y ≤ 63 ∧ 9223372036854775808 ≤ y * 2 ^ lead y ∧ y * 2 ^ lead y < 18446744073709551616 := by
  have ⟨a, b, c⟩ := bitLenAux_spec 64 y h0 h1
  have d := bitLen_le64 y
  unfold lead
  unfold Lib.bitLen at *
  generalize Lib.bitLenAux 64 y = k at *
  refine ⟨by omega, ?_, ?_⟩
  · have := Nat.mul_le_mul_right (2 ^ (64 - k)) b
    rw [← Nat.pow_add, show k - 1 + (64 - k) = 63 by omega] at this
    exact this
  · have := (Nat.mul_lt_mul_right (pow_pos (64 - k))).2 c
    rw [← Nat.pow_add, show k + (64 - k) = 64 by omega] at this
    exact this

set_option maxHeartbeats 400000 in
theorem lead_any (x : Nat) (w : World) (h1 : x < 18446744073709551616) :
    Calls Tryz.prog 73 #[.int .u64 x] w fun e w' => e = .returned (.int .i64 (lead x : Nat)) ∧ w = w' := by
  have hb := bitLen_le64 x
  have H := hide (show (64 - (Lib.bitLen x : Int)) = ((lead x : Nat) : Int) by unfold lead; omega)
  go_enter Tryz.func73, Tryz.ntmps73
  go_wp2_with fail
  refine (len64_any x _ (by omega) (by omega)).mono ?_
  rintro e w' ⟨rfl, rfl⟩
  rw [Int.toNat_natCast]
  go_wp2
  go_ret
  exact ⟨congrArg Ending.returned (i64_eq H.out), rfl⟩
end Go.Proofs.YtfmhpnendcikoaaGreat
