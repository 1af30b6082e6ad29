/-
  Contracts of the calls on addresses that sets of ranges need (Add, Sub, Cmp): what each returns for every value of the types, and that no memory that existed is changed. Condition of each: the words are words of 64 bits (every value of the types is such).
-/
import Derived.Test.YtfmhpnendcikoaaGreatProg
import Derived.Test.YtfmhpnendcikoaaGreatAddrP
import Derived.WalkKit
import Derived.WalkSpells
import Derived.WalkLawsBesides
import Derived.Laws.Externs
import Derived.RegionTactic
import Derived.ChangeAlike
import Derived.ProofKit
import Derived.BigQuiet
import Derived.Deep.QuietTactic
import Derived.Deep.LoopGhost
import Derived.Lib.SmallJoins
import Derived.Lib.Hide
namespace Go.Proofs.YtfmhpnendcikoaaGreat
open Go.RowKit Go.Joins
/-- an address as the program holds it: its two words -/
abbrev A (a : Nat) : Value := .agg #[.int .u64 (hi a : Nat), .int .u64 (lo a : Nat)]
/-- a call with this one result, nothing old changed -/
def Gives (v : Value) (w : World) (e : Ending) (w' : World) : Prop := e = .returned v ∧ Below w.heap.size w w'
theorem hide {p : Prop} (h : p) : Hid p := h
theorem agg2 {x x' y y' : Int} (h : x = x') (k : y = y') : Value.agg #[.int .u64 x, .int .u64 y] = .agg #[.int .u64 x', .int .u64 y'] := by rw [h, k]
theorem bool_eq {a b : Bool} (h : a = b) : Value.bool a = .bool b := by rw [h]
theorem tup2 {x x' y y' : Value} (h : x = x') (k : y = y') : Value.tuple #[x, y] = .tuple #[x', y'] := by rw [h, k]
theorem i64_eq {a b : Int} (h : a = b) : Value.int .i64 a = .int .i64 b := by rw [h]
theorem u64_eq {a b : Int} (h : a = b) : Value.int .u64 a = .int .u64 b := by rw [h]
/-! ### sums and differences -/
theorem add64_run (x y c : Nat) (hc : c ≤ 1) (w : World) :
    (callFunc 75 #[.int .u64 x, .int .u64 y, .int .u64 c]).run Tryz.prog w =
      .ok (.value (.tuple #[.int .u64 (((x + y + c) % 18446744073709551616 : Nat) : Int), .int .u64 (((x + y + c) / 18446744073709551616 : Nat) : Int)])) w := by
  rw [run_callFunc_extern Tryz.func75 (by kernel_rfl) (by kernel_rfl) (by kernel_rfl) (e := add64Entry) (by kernel_rfl), run_add64 x y c (by omega) (by omega) (by omega) (by omega)]
  simp only [Result.andThen]
  congr 5 <;> omega
theorem add64_run0 (x y : Nat) (w : World) :
    (callFunc 75 #[.int .u64 x, .int .u64 y, .int .u64 0]).run Tryz.prog w =
      .ok (.value (.tuple #[.int .u64 (((x + y + 0) % 18446744073709551616 : Nat) : Int), .int .u64 (((x + y + 0) / 18446744073709551616 : Nat) : Int)])) w := add64_run x y 0 (by omega) w
def sub64Row : Array Value → Sem Value := fun args => do
  let (x, y, b) ← Extern.MathBitsCarry.three "Sub64" args
  pure (Extern.MathBitsCarry.pair ((x + Extern.MathBitsCarry.m64 - y - b) % Extern.MathBitsCarry.m64) (if x < y + b then 1 else 0))
theorem run_sub64Row (x y b : Nat) (hb : b ≤ 1) (w : World) :
    (sub64Row #[.int .u64 x, .int .u64 y, .int .u64 b]).run Tryz.prog w =
      .ok (.tuple #[.int .u64 (((x + 18446744073709551616 - y - b) % 18446744073709551616 : Nat) : Int), .int .u64 ((if x < y + b then 1 else 0 : Nat) : Int)]) w := by
  have : b = 0 ∨ b = 1 := by omega
  rcases this with rfl | rfl <;> rfl
theorem sub64_run (x y b : Nat) (hb : b ≤ 1) (w : World) :
    (callFunc 76 #[.int .u64 x, .int .u64 y, .int .u64 b]).run Tryz.prog w =
      .ok (.value (.tuple #[.int .u64 (((x + 18446744073709551616 - y - b) % 18446744073709551616 : Nat) : Int), .int .u64 ((if x < y + b then 1 else 0 : Nat) : Int)])) w := by
  rw [run_callFunc_extern Tryz.func76 (by kernel_rfl) (by kernel_rfl) (by kernel_rfl) (e := sub64Row) (by kernel_rfl), run_sub64Row x y b hb]
  rfl
theorem sub64_run0 (x y : Nat) (w : World) :
    (callFunc 76 #[.int .u64 x, .int .u64 y, .int .u64 0]).run Tryz.prog w =
      .ok (.value (.tuple #[.int .u64 (((x + 18446744073709551616 - y - 0) % 18446744073709551616 : Nat) : Int), .int .u64 ((if x < y + 0 then 1 else 0 : Nat) : Int)])) w := sub64_run x y 0 (by omega) w
theorem carry_le (a b : Nat) : (lo a + lo b + 0) / 18446744073709551616 ≤ 1 := by have := lo_lt a; have := lo_lt b; omega
theorem borrow_le (a b : Nat) : (if lo a < lo b + 0 then 1 else 0) ≤ 1 := by split <;> omega
/-- the words of a sum, as the two steps of the carry leave them -/
def cl (a b : Nat) : Nat := (lo a + lo b + 0) % 18446744073709551616
def cc (a b : Nat) : Nat := (lo a + lo b + 0) / 18446744073709551616
def ch (a b : Nat) : Nat := (hi a + hi b + cc a b) % 18446744073709551616
def co (a b : Nat) : Nat := (hi a + hi b + cc a b) / 18446744073709551616
def dl (a b : Nat) : Nat := (lo a + 18446744073709551616 - lo b - 0) % 18446744073709551616
def dc (a b : Nat) : Nat := if lo a < lo b + 0 then 1 else 0
def dh (a b : Nat) : Nat := (hi a + 18446744073709551616 - hi b - dc a b) % 18446744073709551616
def dd (a b : Nat) : Nat := if hi a < hi b + dc a b then 1 else 0
theorem add_lows (a b : Nat) (w : World) : (callFunc 75 #[.int .u64 (lo a : Nat), .int .u64 (lo b : Nat), .int .u64 0]).run Tryz.prog w = .ok (.value (.tuple #[.int .u64 (cl a b : Nat), .int .u64 (cc a b : Nat)])) w := add64_run0 _ _ w
theorem add_highs (a b : Nat) (w : World) : (callFunc 75 #[.int .u64 (hi a : Nat), .int .u64 (hi b : Nat), .int .u64 (cc a b : Nat)]).run Tryz.prog w = .ok (.value (.tuple #[.int .u64 (ch a b : Nat), .int .u64 (co a b : Nat)])) w := add64_run _ _ _ (carry_le a b) w
theorem sub_lows (a b : Nat) (w : World) : (callFunc 76 #[.int .u64 (lo a : Nat), .int .u64 (lo b : Nat), .int .u64 0]).run Tryz.prog w = .ok (.value (.tuple #[.int .u64 (dl a b : Nat), .int .u64 (dc a b : Nat)])) w := sub64_run0 _ _ w
theorem sub_highs (a b : Nat) (w : World) : (callFunc 76 #[.int .u64 (hi a : Nat), .int .u64 (hi b : Nat), .int .u64 (dc a b : Nat)]).run Tryz.prog w = .ok (.value (.tuple #[.int .u64 (dh a b : Nat), .int .u64 (dd a b : Nat)])) w := sub64_run _ _ _ (borrow_le a b) w
theorem flag_eq {n : Nat} {p : Prop} [Decidable p] (h : n = 1 ↔ p) : ((n : Int) == 1) = decide p := by
  by_cases hp : p
  · rw [h.2 hp]; simp [hp]
  · have : n ≠ 1 := fun e => hp (h.1 e)
    simp [hp]; omega
set_option maxHeartbeats 400000 in
theorem add_any {a b : Nat} (ha : Fits a) (hb : Fits b) (w : World) :
    Calls Tryz.prog 50 #[A a, A b] w (Gives (.tuple #[A (addS a b), .bool (addO a b)]) w) := by
  have k1 := add_lows a b
  have k2 := add_highs a b
  go_enter Tryz.func50, Tryz.ntmps50
  go_wp2
  refine bodyPost_ret (v := .tuple #[A (addS a b), .bool (addO a b)]) ?_ rfl ⟨rfl, (((Below.refl _ _).alloc (Nat.le_refl _) _).alloc (by simp) _).alloc (by simp; omega) _⟩
  have e1 : cl a b = lo (addS a b) := lo_add a b
  have e2 : ch a b = hi (addS a b) := hi_add ha hb
  have e3 : ((co a b : Nat) == (1 : Int)) = addO a b := flag_eq (over_add ha hb)
  simp [results, Tryz.results50, go_sem, e1, e2, e3]
set_option maxHeartbeats 400000 in
theorem sub_any {a b : Nat} (ha : Fits a) (hb : Fits b) (w : World) :
    Calls Tryz.prog 52 #[A a, A b] w (Gives (.tuple #[A (subS a b), .bool (subO a b)]) w) := by
  have k1 := sub_lows a b
  have k2 := sub_highs a b
  go_enter Tryz.func52, Tryz.ntmps52
  go_wp2
  refine bodyPost_ret (v := .tuple #[A (subS a b), .bool (subO a b)]) ?_ rfl ⟨rfl, (((Below.refl _ _).alloc (Nat.le_refl _) _).alloc (by simp) _).alloc (by simp; omega) _⟩
  have e1 : dl a b = lo (subS a b) := lo_sub ha hb
  have e2 : dh a b = hi (subS a b) := hi_sub ha hb
  have e3 : ((dd a b : Nat) == (1 : Int)) = subO a b := flag_eq (under_sub ha hb)
  simp [results, Tryz.results52, go_sem, e1, e2, e3]
theorem bcell {W w1 : World} (hb : Below W.heap.size W w1) : (∀ b o, b < W.heap.size → w1.cell? ⟨b, o, none⟩ = W.cell? ⟨b, o, none⟩) ∧ (∀ b o, b < W.heap.size → w1.frozen? ⟨b, o, none⟩ = W.frozen? ⟨b, o, none⟩) :=
  ⟨fun b o h => hb.cell (p := ⟨b, o, none⟩) h, fun b o h => hb.frozen (p := ⟨b, o, none⟩) h⟩
theorem cmpS_lt {a b : Nat} (h : a < b) : cmpS a b = -1 := by unfold cmpS; rw [if_pos h]
theorem cmpS_gt {a b : Nat} (h : b < a) : cmpS a b = 1 := by unfold cmpS; rw [if_neg (by omega), if_pos h]
theorem cmpS_eq {a b : Nat} (h : a = b) : cmpS a b = 0 := by unfold cmpS; rw [if_neg (by omega), if_neg (by omega)]
set_option maxHeartbeats 400000 in
theorem compare_any (x y : Nat) (w : World) :
    Calls Tryz.prog 35 #[.int .u64 (x : Nat), .int .u64 (y : Nat)] w (Gives (.int .i64 (cmpS x y)) w) := by
  rcases Nat.lt_trichotomy x y with h | h | h
  · have e := cmpS_lt h
    have H := hide e
    clear e
    go_enter Tryz.func35, Tryz.ntmps35
    go_wp2
    go_ret
    exact ⟨congrArg Ending.returned (i64_eq H.out.symm), Below.refl _ _⟩
  · subst h
    have H := hide (cmpS_eq (rfl : x = x))
    go_enter Tryz.func35, Tryz.ntmps35
    go_wp2
    go_ret
    exact ⟨congrArg Ending.returned (i64_eq H.out.symm), Below.refl _ _⟩
  · have e := cmpS_gt h
    have H := hide e
    clear e
    go_enter Tryz.func35, Tryz.ntmps35
    go_wp2
    go_ret
    exact ⟨congrArg Ending.returned (i64_eq H.out.symm), Below.refl _ _⟩
set_option maxHeartbeats 400000 in
theorem cmp_any (a b : Nat) (w : World) :
    Calls Tryz.prog 18 #[A a, A b] w (Gives (.int .i64 (cmpS a b)) w) := by
  by_cases h : hi a = hi b
  · have H := hide (cmp_lo h)
    have K : (((hi a : Nat) : Int) != ((hi b : Nat) : Int)) = false := by rw [h]; simp
    clear h
    go_enter Tryz.func18, Tryz.ntmps18
    go_wp2_with (go_at_call 35; refine (compare_any _ _ _).mono ?_; rintro e w' ⟨rfl, hb⟩)
    go_ret
    exact ⟨congrArg Ending.returned (i64_eq H.out), (((Below.refl _ _).alloc (Nat.le_refl _) _).alloc (by simp) _).trans (hb.mono (by simp; omega))⟩
  · have H := hide (cmp_hi h)
    have K : (((hi a : Nat) : Int) != ((hi b : Nat) : Int)) = true := by simp; omega
    clear h
    go_enter Tryz.func18, Tryz.ntmps18
    go_wp2_with (go_at_call 35; refine (compare_any _ _ _).mono ?_; rintro e w' ⟨rfl, hb⟩)
    go_ret
    exact ⟨congrArg Ending.returned (i64_eq H.out), (((Below.refl _ _).alloc (Nat.le_refl _) _).alloc (by simp) _).trans (hb.mono (by simp; omega))⟩
/-- a prefix as the program holds it -/
abbrev Pv (p : Nat) (n : Int) : Value := .agg #[.int .u64 (hi p : Nat), .int .u64 (lo p : Nat), .int .i64 n]
abbrev Rv (a b : Nat) : Value := .agg #[.int .u64 (hi a : Nat), .int .u64 (lo a : Nat), .int .u64 (hi b : Nat), .int .u64 (lo b : Nat)]

theorem keep_cell {W w2 : World} {p : Go.Addr} {v : Value} (hb : Below W.heap.size W w2) (h : W.cell? p = some v) : w2.cell? p = some v := by
  rw [hb.cell (World.block_lt_of_cell? W p h), h]
theorem keep_free {W w2 : World} {p : Go.Addr} (hb : Below W.heap.size W w2) (hl : p.block < W.heap.size) (h : W.frozen? p = false) : w2.frozen? p = false := by
  rw [hb.frozen hl, h]
theorem below_alloc (W : World) (o : Obj) : Below W.heap.size W (W.alloc o) := (Below.refl _ _).alloc (Nat.le_refl _) _
theorem below_drew (W : World) : Below W.heap.size W W.drew := (Below.refl _ _).drew
theorem below_drewN (W : World) (n : Nat) : Below W.heap.size W (W.drewN n) := ⟨rfl, rfl, rfl, Nat.le_refl _, fun _ _ => rfl⟩
theorem chain {w v v' : World} (h : Below w.heap.size w v) (k : Below v.heap.size v v') : Below w.heap.size w v' := h.trans (k.mono h.size)
theorem via {f : FuncId} {args : Array Value} {w : World} {v v' : Value} (h : Calls Tryz.prog f args w (Gives v w)) (e : v = v') : Calls Tryz.prog f args w (Gives v' w) := e ▸ h
end Go.Proofs.YtfmhpnendcikoaaGreat
