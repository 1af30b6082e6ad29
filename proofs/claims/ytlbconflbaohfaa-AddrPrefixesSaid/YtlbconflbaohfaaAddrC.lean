/-
  Contracts of the calls on addresses (bit, with, Add, Sub, Cmp, Up, Down, tail, Of4): what each returns for every address of 128 bits, and that no memory that existed is changed. Condition of each: the words are words of 64 bits (every value of the type is such).
-/
import Derived.Test.YtlbconflbaohfaaProg
import Derived.Test.YtlbconflbaohfaaAddrW
import Derived.WalkKit
import Derived.WalkSpells
import Derived.WalkLawsBesides
import Derived.Laws.Externs
import Derived.RegionTactic
import Derived.ChangeAlike
namespace Go.Proofs.Ytlbconflbaohfaa
open Go.RowKit
/-- an address as the program holds it: its two words -/
abbrev A (a : Nat) : Value := .agg #[.int .u64 (hi a : Nat), .int .u64 (lo a : Nat)]
/-- a call with this one result, nothing old changed -/
def Gives (v : Value) (w : World) (e : Ending) (w' : World) : Prop := e = .returned v ∧ Below w.heap.size w w'

theorem hide {p : Prop} (h : p) : Hid p := h
theorem agg2 {x x' y y' : Int} (h : x = x') (k : y = y') : Value.agg #[.int .u64 x, .int .u64 y] = .agg #[.int .u64 x', .int .u64 y'] := by rw [h, k]
theorem bool_eq {a b : Bool} (h : a = b) : Value.bool a = .bool b := by rw [h]
theorem tup2 {x x' y y' : Value} (h : x = x') (k : y = y') : Value.tuple #[x, y] = .tuple #[x', y'] := by rw [h, k]
theorem i64_eq {a b : Int} (h : a = b) : Value.int .i64 a = .int .i64 b := by rw [h]
theorem u64_eq {a b : Int} (h : a = b) : Value.int .u64 a = .int .u64 b := by rw [h]

set_option maxHeartbeats 400000 in
theorem bit_any {a : Nat} (ha : Fits a) (i : Int) (h0 : 0 ≤ i) (h1 : i < 128) (w : World) :
    Calls Try.prog 42 #[A a, .int .i64 i] w (Gives (.int .u64 (bitS a i.toNat : Nat)) w) := by
  by_cases h : i < 64
  · go_enter Try.func42, Try.ntmps42
    go_wp2
    go_ret
    exact ⟨congrArg Ending.returned (u64_eq (w_bit_hi ha h0 h)), (Below.refl _ _).alloc (Nat.le_refl _) _⟩
  · go_enter Try.func42, Try.ntmps42
    go_wp2
    go_ret
    exact ⟨congrArg Ending.returned (u64_eq (w_bit_lo a (by omega) h1)), (Below.refl _ _).alloc (Nat.le_refl _) _⟩

set_option maxHeartbeats 400000 in
theorem with_any {a : Nat} (ha : Fits a) (i : Int) (h0 : 0 ≤ i) (h1 : i < 128) (w : World) :
    Calls Try.prog 43 #[A a, .int .i64 i] w (Gives (A (withS a i.toNat)) w) := by
  by_cases h : i < 64
  · have e := lo_withS' a (show i.toNat < 64 by omega)
    have H := hide e
    clear e
    go_enter Try.func43, Try.ntmps43
    go_wp2
    exact bodyPost_ret (v := A (withS a i.toNat)) (by simp [results, Try.results43, go_sem, w_with_hi ha h0 h, ← H.out]) rfl ⟨rfl, ((Below.refl _ _).alloc (Nat.le_refl _) _).alloc (by simp) _⟩
  · have e := hi_withS' a (show 64 ≤ i.toNat by omega) (by omega)
    have H := hide e
    clear e
    go_enter Try.func43, Try.ntmps43
    go_wp2
    exact bodyPost_ret (v := A (withS a i.toNat)) (by simp [results, Try.results43, go_sem, w_with_lo a (by omega) h1, ← H.out]) rfl ⟨rfl, ((Below.refl _ _).alloc (Nat.le_refl _) _).alloc (by simp) _⟩

/-! ### sums and differences -/
theorem add64_run (x y c : Nat) (hc : c ≤ 1) (w : World) :
    (callFunc 41 #[.int .u64 x, .int .u64 y, .int .u64 c]).run Try.prog w =
      .ok (.value (.tuple #[.int .u64 (((x + y + c) % 18446744073709551616 : Nat) : Int), .int .u64 (((x + y + c) / 18446744073709551616 : Nat) : Int)])) w := by
  rw [run_callFunc_extern Try.func41 (by kernel_rfl) (by kernel_rfl) (by kernel_rfl) (e := add64Entry) (by kernel_rfl), run_add64 x y c (by omega) (by omega) (by omega) (by omega)]
  simp only [Result.andThen]
  congr 5 <;> omega
theorem add64_run0 (x y : Nat) (w : World) :
    (callFunc 41 #[.int .u64 x, .int .u64 y, .int .u64 0]).run Try.prog w =
      .ok (.value (.tuple #[.int .u64 (((x + y + 0) % 18446744073709551616 : Nat) : Int), .int .u64 (((x + y + 0) / 18446744073709551616 : Nat) : Int)])) w := add64_run x y 0 (by omega) w
def sub64Row : Array Value → Sem Value := fun args => do
  let (x, y, b) ← Extern.MathBitsCarry.three "Sub64" args
  pure (Extern.MathBitsCarry.pair ((x + Extern.MathBitsCarry.m64 - y - b) % Extern.MathBitsCarry.m64) (if x < y + b then 1 else 0))
theorem run_sub64Row (x y b : Nat) (hb : b ≤ 1) (w : World) :
    (sub64Row #[.int .u64 x, .int .u64 y, .int .u64 b]).run Try.prog w =
      .ok (.tuple #[.int .u64 (((x + 18446744073709551616 - y - b) % 18446744073709551616 : Nat) : Int), .int .u64 ((if x < y + b then 1 else 0 : Nat) : Int)]) w := by
  have : b = 0 ∨ b = 1 := by omega
  rcases this with rfl | rfl <;> rfl
theorem sub64_run (x y b : Nat) (hb : b ≤ 1) (w : World) :
    (callFunc 44 #[.int .u64 x, .int .u64 y, .int .u64 b]).run Try.prog w =
      .ok (.value (.tuple #[.int .u64 (((x + 18446744073709551616 - y - b) % 18446744073709551616 : Nat) : Int), .int .u64 ((if x < y + b then 1 else 0 : Nat) : Int)])) w := by
  rw [run_callFunc_extern Try.func44 (by kernel_rfl) (by kernel_rfl) (by kernel_rfl) (e := sub64Row) (by kernel_rfl), run_sub64Row x y b hb]
  rfl
theorem sub64_run0 (x y : Nat) (w : World) :
    (callFunc 44 #[.int .u64 x, .int .u64 y, .int .u64 0]).run Try.prog w =
      .ok (.value (.tuple #[.int .u64 (((x + 18446744073709551616 - y - 0) % 18446744073709551616 : Nat) : Int), .int .u64 ((if x < y + 0 then 1 else 0 : Nat) : Int)])) w := sub64_run x y 0 (by omega) w
theorem carry_le (a b : Nat) : (lo a + lo b + 0) / 18446744073709551616 ≤ 1 := by have := lo_lt a; have := lo_lt b; omega
theorem borrow_le (a b : Nat) : (if lo a < lo b + 0 then 1 else 0) ≤ 1 := by split <;> omega
/-- the words of a sum, as the two steps of the carry leave them -/
def cl (a b : Nat) : Nat := (lo a + lo b + 0) % 18446744073709551616
def cc (a b : Nat) : Nat := (lo a + lo b + 0) / 18446744073709551616
def ch (a b : Nat) : Nat := (hi a + hi b + cc a b) % 18446744073709551616
def co (a b : Nat) : Nat := (hi a + hi b + cc a b) / 18446744073709551616
def dl (a b : Nat) : Nat := (lo a + 18446744073709551616 - lo b - 0) % 18446744073709551616
def dc (a b : Nat) : Nat := if lo a < lo b + 0 then 1 else 0
def dh (a b : Nat) : Nat := (hi a + 18446744073709551616 - hi b - dc a b) % 18446744073709551616
def dd (a b : Nat) : Nat := if hi a < hi b + dc a b then 1 else 0
theorem add_lows (a b : Nat) (w : World) : (callFunc 41 #[.int .u64 (lo a : Nat), .int .u64 (lo b : Nat), .int .u64 0]).run Try.prog w = .ok (.value (.tuple #[.int .u64 (cl a b : Nat), .int .u64 (cc a b : Nat)])) w := add64_run0 _ _ w
theorem add_highs (a b : Nat) (w : World) : (callFunc 41 #[.int .u64 (hi a : Nat), .int .u64 (hi b : Nat), .int .u64 (cc a b : Nat)]).run Try.prog w = .ok (.value (.tuple #[.int .u64 (ch a b : Nat), .int .u64 (co a b : Nat)])) w := add64_run _ _ _ (carry_le a b) w
theorem sub_lows (a b : Nat) (w : World) : (callFunc 44 #[.int .u64 (lo a : Nat), .int .u64 (lo b : Nat), .int .u64 0]).run Try.prog w = .ok (.value (.tuple #[.int .u64 (dl a b : Nat), .int .u64 (dc a b : Nat)])) w := sub64_run0 _ _ w
theorem sub_highs (a b : Nat) (w : World) : (callFunc 44 #[.int .u64 (hi a : Nat), .int .u64 (hi b : Nat), .int .u64 (dc a b : Nat)]).run Try.prog w = .ok (.value (.tuple #[.int .u64 (dh a b : Nat), .int .u64 (dd a b : Nat)])) w := sub64_run _ _ _ (borrow_le a b) w
theorem flag_eq {n : Nat} {p : Prop} [Decidable p] (h : n = 1 ↔ p) : ((n : Int) == 1) = decide p := by
  by_cases hp : p
  · rw [h.2 hp]; simp [hp]
  · have : n ≠ 1 := fun e => hp (h.1 e)
    simp [hp]; omega

set_option maxHeartbeats 400000 in
theorem add_any {a b : Nat} (ha : Fits a) (hb : Fits b) (w : World) :
    Calls Try.prog 11 #[A a, A b] w (Gives (.tuple #[A (addS a b), .bool (addO a b)]) w) := by
  have k1 := add_lows a b
  have k2 := add_highs a b
  go_enter Try.func11, Try.ntmps11
  go_wp2
  refine bodyPost_ret (v := .tuple #[A (addS a b), .bool (addO a b)]) ?_ rfl ⟨rfl, (((Below.refl _ _).alloc (Nat.le_refl _) _).alloc (by simp) _).alloc (by simp; omega) _⟩
  have e1 : cl a b = lo (addS a b) := lo_add a b
  have e2 : ch a b = hi (addS a b) := hi_add ha hb
  have e3 : ((co a b : Nat) == (1 : Int)) = addO a b := flag_eq (over_add ha hb)
  simp [results, Try.results11, go_sem, e1, e2, e3]

set_option maxHeartbeats 400000 in
theorem sub_any {a b : Nat} (ha : Fits a) (hb : Fits b) (w : World) :
    Calls Try.prog 13 #[A a, A b] w (Gives (.tuple #[A (subS a b), .bool (subO a b)]) w) := by
  have k1 := sub_lows a b
  have k2 := sub_highs a b
  go_enter Try.func13, Try.ntmps13
  go_wp2
  refine bodyPost_ret (v := .tuple #[A (subS a b), .bool (subO a b)]) ?_ rfl ⟨rfl, (((Below.refl _ _).alloc (Nat.le_refl _) _).alloc (by simp) _).alloc (by simp; omega) _⟩
  have e1 : dl a b = lo (subS a b) := lo_sub ha hb
  have e2 : dh a b = hi (subS a b) := hi_sub ha hb
  have e3 : ((dd a b : Nat) == (1 : Int)) = subO a b := flag_eq (under_sub ha hb)
  simp [results, Try.results13, go_sem, e1, e2, e3]

end Go.Proofs.Ytlbconflbaohfaa
