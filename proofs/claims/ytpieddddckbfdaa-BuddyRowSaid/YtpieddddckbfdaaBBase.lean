/-
  Basics of the walks over buddy: what a call gives, memory kept over calls; contracts of addr's calls (Add, Sub, Cmp, Clip, Has, Sound, Span, Covers, Meets, Halves) and what they call. Conditions: a word is a word of 64 bits, an int is an int of 64 bits (every value of the types is such).
-/
import Derived.Test.YtpieddddckbfdaaProg
import Derived.Test.YtpieddddckbfdaaAddrP
import Derived.Test.YtpieddddckbfdaaAddrNestM
import Derived.WalkKit
import Derived.WalkSpells
import Derived.WalkLawsBesides
import Derived.Laws.Externs
import Derived.RegionTactic
import Derived.ChangeAlike
import Derived.ProofKit
import Derived.BigQuiet
import Derived.Deep.QuietTactic
import Derived.Deep.LoopGhost
import Derived.Lib.SmallJoins
import Derived.Lib.Hide
import Derived.Deep.AppendLies
import Derived.ArgAppend
import Derived.Laws.OwnMore
import Derived.Deep.RegionWith
import Derived.Deep.RegionLaw
import Derived.Deep.RegionHeld3
namespace Go.Proofs.Ytpieddddckbfdaa
open Go.RowKit Go.Joins

abbrev A (a : Nat) : Value := .agg #[.int .u64 (hi a : Nat), .int .u64 (lo a : Nat)]
/-- a call with this one result, nothing old changed -/
def Gives (v : Value) (w : World) (e : Ending) (w' : World) : Prop := e = .returned v ∧ Below w.heap.size w w'
/-- a call with this one result, nothing touched at all -/
def Same (v : Value) (w : World) (e : Ending) (w' : World) : Prop := e = .returned v ∧ w = w'
theorem hide {p : Prop} (h : p) : Hid p := h
theorem bool_eq {a b : Bool} (h : a = b) : Value.bool a = .bool b := by rw [h]
theorem tup2 {x x' y y' : Value} (h : x = x') (k : y = y') : Value.tuple #[x, y] = .tuple #[x', y'] := by rw [h, k]
theorem tup3 {x x' y y' z z' : Value} (h : x = x') (k : y = y') (l : z = z') : Value.tuple #[x, y, z] = .tuple #[x', y', z'] := by rw [h, k, l]
theorem bcell {W w1 : World} (hb : Below W.heap.size W w1) : (∀ b o, b < W.heap.size → w1.cell? ⟨b, o, none⟩ = W.cell? ⟨b, o, none⟩) ∧ (∀ b o, b < W.heap.size → w1.frozen? ⟨b, o, none⟩ = W.frozen? ⟨b, o, none⟩) :=
  ⟨fun b o h => hb.cell (p := ⟨b, o, none⟩) h, fun b o h => hb.frozen (p := ⟨b, o, none⟩) h⟩
theorem keep_cell {W w2 : World} {p : Go.Addr} {v : Value} (hb : Below W.heap.size W w2) (h : W.cell? p = some v) : w2.cell? p = some v := by
  rw [hb.cell (World.block_lt_of_cell? W p h), h]
theorem keep_free {W w2 : World} {p : Go.Addr} (hb : Below W.heap.size W w2) (hl : p.block < W.heap.size) (h : W.frozen? p = false) : w2.frozen? p = false := by
  rw [hb.frozen hl, h]
theorem below_alloc (W : World) (o : Obj) : Below W.heap.size W (W.alloc o) := (Below.refl _ _).alloc (Nat.le_refl _) _
theorem below_drew (W : World) : Below W.heap.size W W.drew := (Below.refl _ _).drew
theorem below_drewN (W : World) (n : Nat) : Below W.heap.size W (W.drewN n) := ⟨rfl, rfl, rfl, Nat.le_refl _, fun _ _ => rfl⟩
theorem chain {w v v' : World} (h : Below w.heap.size w v) (k : Below v.heap.size v v') : Below w.heap.size w v' := h.trans (k.mono h.size)
/-- an int of 64 bits -/
def I64 (a : Int) : Prop := -9223372036854775808 ≤ a ∧ a ≤ 9223372036854775807
theorem via {f : FuncId} {args : Array Value} {w : World} {v v' : Value} (h : Calls Try.prog f args w (Gives v w)) (e : v = v') : Calls Try.prog f args w (Gives v' w) := e ▸ h
theorem agg2 {x x' y y' : Int} (h : x = x') (k : y = y') : Value.agg #[.int .u64 x, .int .u64 y] = .agg #[.int .u64 x', .int .u64 y'] := by rw [h, k]
theorem i64_eq {a b : Int} (h : a = b) : Value.int .i64 a = .int .i64 b := by rw [h]
theorem u64_eq {a b : Int} (h : a = b) : Value.int .u64 a = .int .u64 b := by rw [h]
set_option maxHeartbeats 400000 in
theorem bit_any {a : Nat} (ha : Fits a) (i : Int) (h0 : 0 ≤ i) (h1 : i < 128) (w : World) :
    Calls Try.prog 56 #[A a, .int .i64 i] w (Gives (.int .u64 (bitS a i.toNat : Nat)) w) := by
  by_cases h : i < 64
  · go_enter Try.func56, Try.ntmps56
    go_wp2
    go_ret
    exact ⟨congrArg Ending.returned (u64_eq (w_bit_hi ha h0 h)), (Below.refl _ _).alloc (Nat.le_refl _) _⟩
  · go_enter Try.func56, Try.ntmps56
    go_wp2
    go_ret
    exact ⟨congrArg Ending.returned (u64_eq (w_bit_lo a (by omega) h1)), (Below.refl _ _).alloc (Nat.le_refl _) _⟩
set_option maxHeartbeats 400000 in
theorem with_any {a : Nat} (ha : Fits a) (i : Int) (h0 : 0 ≤ i) (h1 : i < 128) (w : World) :
    Calls Try.prog 70 #[A a, .int .i64 i] w (Gives (A (withS a i.toNat)) w) := by
  by_cases h : i < 64
  · have e := lo_withS' a (show i.toNat < 64 by omega)
    have H := hide e
    clear e
    go_enter Try.func70, Try.ntmps70
    go_wp2
    exact bodyPost_ret (v := A (withS a i.toNat)) (by simp [results, Try.results70, go_sem, w_with_hi ha h0 h, ← H.out]) rfl ⟨rfl, ((Below.refl _ _).alloc (Nat.le_refl _) _).alloc (by simp) _⟩
  · have e := hi_withS' a (show 64 ≤ i.toNat by omega) (by omega)
    have H := hide e
    clear e
    go_enter Try.func70, Try.ntmps70
    go_wp2
    exact bodyPost_ret (v := A (withS a i.toNat)) (by simp [results, Try.results70, go_sem, w_with_lo a (by omega) h1, ← H.out]) rfl ⟨rfl, ((Below.refl _ _).alloc (Nat.le_refl _) _).alloc (by simp) _⟩
theorem add64_run (x y c : Nat) (hc : c ≤ 1) (w : World) :
    (callFunc 69 #[.int .u64 x, .int .u64 y, .int .u64 c]).run Try.prog w =
      .ok (.value (.tuple #[.int .u64 (((x + y + c) % 18446744073709551616 : Nat) : Int), .int .u64 (((x + y + c) / 18446744073709551616 : Nat) : Int)])) w := by
  rw [run_callFunc_extern Try.func69 (by kernel_rfl) (by kernel_rfl) (by kernel_rfl) (e := add64Entry) (by kernel_rfl), run_add64 x y c (by omega) (by omega) (by omega) (by omega)]
  simp only [Result.andThen]
  congr 5 <;> omega
theorem add64_run0 (x y : Nat) (w : World) :
    (callFunc 69 #[.int .u64 x, .int .u64 y, .int .u64 0]).run Try.prog w =
      .ok (.value (.tuple #[.int .u64 (((x + y + 0) % 18446744073709551616 : Nat) : Int), .int .u64 (((x + y + 0) / 18446744073709551616 : Nat) : Int)])) w := add64_run x y 0 (by omega) w
def sub64Row : Array Value → Sem Value := fun args => do
  let (x, y, b) ← Extern.MathBitsCarry.three "Sub64" args
  pure (Extern.MathBitsCarry.pair ((x + Extern.MathBitsCarry.m64 - y - b) % Extern.MathBitsCarry.m64) (if x < y + b then 1 else 0))
theorem run_sub64Row (x y b : Nat) (hb : b ≤ 1) (w : World) :
    (sub64Row #[.int .u64 x, .int .u64 y, .int .u64 b]).run Try.prog w =
      .ok (.tuple #[.int .u64 (((x + 18446744073709551616 - y - b) % 18446744073709551616 : Nat) : Int), .int .u64 ((if x < y + b then 1 else 0 : Nat) : Int)]) w := by
  have : b = 0 ∨ b = 1 := by omega
  rcases this with rfl | rfl <;> rfl
theorem sub64_run (x y b : Nat) (hb : b ≤ 1) (w : World) :
    (callFunc 68 #[.int .u64 x, .int .u64 y, .int .u64 b]).run Try.prog w =
      .ok (.value (.tuple #[.int .u64 (((x + 18446744073709551616 - y - b) % 18446744073709551616 : Nat) : Int), .int .u64 ((if x < y + b then 1 else 0 : Nat) : Int)])) w := by
  rw [run_callFunc_extern Try.func68 (by kernel_rfl) (by kernel_rfl) (by kernel_rfl) (e := sub64Row) (by kernel_rfl), run_sub64Row x y b hb]
  rfl
theorem sub64_run0 (x y : Nat) (w : World) :
    (callFunc 68 #[.int .u64 x, .int .u64 y, .int .u64 0]).run Try.prog w =
      .ok (.value (.tuple #[.int .u64 (((x + 18446744073709551616 - y - 0) % 18446744073709551616 : Nat) : Int), .int .u64 ((if x < y + 0 then 1 else 0 : Nat) : Int)])) w := sub64_run x y 0 (by omega) w
theorem carry_le (a b : Nat) : (lo a + lo b + 0) / 18446744073709551616 ≤ 1 := by have := lo_lt a; have := lo_lt b; omega
theorem borrow_le (a b : Nat) : (if lo a < lo b + 0 then 1 else 0) ≤ 1 := by split <;> omega
/-- the words of a sum, as the two steps of the carry leave them -/
def cl (a b : Nat) : Nat := (lo a + lo b + 0) % 18446744073709551616
def cc (a b : Nat) : Nat := (lo a + lo b + 0) / 18446744073709551616
def ch (a b : Nat) : Nat := (hi a + hi b + cc a b) % 18446744073709551616
def co (a b : Nat) : Nat := (hi a + hi b + cc a b) / 18446744073709551616
def dl (a b : Nat) : Nat := (lo a + 18446744073709551616 - lo b - 0) % 18446744073709551616
def dc (a b : Nat) : Nat := if lo a < lo b + 0 then 1 else 0
def dh (a b : Nat) : Nat := (hi a + 18446744073709551616 - hi b - dc a b) % 18446744073709551616
def dd (a b : Nat) : Nat := if hi a < hi b + dc a b then 1 else 0
theorem add_lows (a b : Nat) (w : World) : (callFunc 69 #[.int .u64 (lo a : Nat), .int .u64 (lo b : Nat), .int .u64 0]).run Try.prog w = .ok (.value (.tuple #[.int .u64 (cl a b : Nat), .int .u64 (cc a b : Nat)])) w := add64_run0 _ _ w
theorem add_highs (a b : Nat) (w : World) : (callFunc 69 #[.int .u64 (hi a : Nat), .int .u64 (hi b : Nat), .int .u64 (cc a b : Nat)]).run Try.prog w = .ok (.value (.tuple #[.int .u64 (ch a b : Nat), .int .u64 (co a b : Nat)])) w := add64_run _ _ _ (carry_le a b) w
theorem sub_lows (a b : Nat) (w : World) : (callFunc 68 #[.int .u64 (lo a : Nat), .int .u64 (lo b : Nat), .int .u64 0]).run Try.prog w = .ok (.value (.tuple #[.int .u64 (dl a b : Nat), .int .u64 (dc a b : Nat)])) w := sub64_run0 _ _ w
theorem sub_highs (a b : Nat) (w : World) : (callFunc 68 #[.int .u64 (hi a : Nat), .int .u64 (hi b : Nat), .int .u64 (dc a b : Nat)]).run Try.prog w = .ok (.value (.tuple #[.int .u64 (dh a b : Nat), .int .u64 (dd a b : Nat)])) w := sub64_run _ _ _ (borrow_le a b) w
theorem flag_eq {n : Nat} {p : Prop} [Decidable p] (h : n = 1 ↔ p) : ((n : Int) == 1) = decide p := by
  by_cases hp : p
  · rw [h.2 hp]; simp [hp]
  · have : n ≠ 1 := fun e => hp (h.1 e)
    simp [hp]; omega
set_option maxHeartbeats 400000 in
theorem add_any {a b : Nat} (ha : Fits a) (hb : Fits b) (w : World) :
    Calls Try.prog 52 #[A a, A b] w (Gives (.tuple #[A (addS a b), .bool (addO a b)]) w) := by
  have k1 := add_lows a b
  have k2 := add_highs a b
  go_enter Try.func52, Try.ntmps52
  go_wp2
  refine bodyPost_ret (v := .tuple #[A (addS a b), .bool (addO a b)]) ?_ rfl ⟨rfl, (((Below.refl _ _).alloc (Nat.le_refl _) _).alloc (by simp) _).alloc (by simp; omega) _⟩
  have e1 : cl a b = lo (addS a b) := lo_add a b
  have e2 : ch a b = hi (addS a b) := hi_add ha hb
  have e3 : ((co a b : Nat) == (1 : Int)) = addO a b := flag_eq (over_add ha hb)
  simp [results, Try.results52, go_sem, e1, e2, e3]
set_option maxHeartbeats 400000 in
theorem sub_any {a b : Nat} (ha : Fits a) (hb : Fits b) (w : World) :
    Calls Try.prog 51 #[A a, A b] w (Gives (.tuple #[A (subS a b), .bool (subO a b)]) w) := by
  have k1 := sub_lows a b
  have k2 := sub_highs a b
  go_enter Try.func51, Try.ntmps51
  go_wp2
  refine bodyPost_ret (v := .tuple #[A (subS a b), .bool (subO a b)]) ?_ rfl ⟨rfl, (((Below.refl _ _).alloc (Nat.le_refl _) _).alloc (by simp) _).alloc (by simp; omega) _⟩
  have e1 : dl a b = lo (subS a b) := lo_sub ha hb
  have e2 : dh a b = hi (subS a b) := hi_sub ha hb
  have e3 : ((dd a b : Nat) == (1 : Int)) = subO a b := flag_eq (under_sub ha hb)
  simp [results, Try.results51, go_sem, e1, e2, e3]
theorem cmpS_lt {a b : Nat} (h : a < b) : cmpS a b = -1 := by unfold cmpS; rw [if_pos h]
theorem cmpS_gt {a b : Nat} (h : b < a) : cmpS a b = 1 := by unfold cmpS; rw [if_neg (by omega), if_pos h]
theorem cmpS_eq {a b : Nat} (h : a = b) : cmpS a b = 0 := by unfold cmpS; rw [if_neg (by omega), if_neg (by omega)]
set_option maxHeartbeats 400000 in
theorem compare_any (x y : Nat) (w : World) :
    Calls Try.prog 72 #[.int .u64 (x : Nat), .int .u64 (y : Nat)] w (Gives (.int .i64 (cmpS x y)) w) := by
  rcases Nat.lt_trichotomy x y with h | h | h
  · have e := cmpS_lt h
    have H := hide e
    clear e
    go_enter Try.func72, Try.ntmps72
    go_wp2
    go_ret
    exact ⟨congrArg Ending.returned (i64_eq H.out.symm), Below.refl _ _⟩
  · subst h
    have H := hide (cmpS_eq (rfl : x = x))
    go_enter Try.func72, Try.ntmps72
    go_wp2
    go_ret
    exact ⟨congrArg Ending.returned (i64_eq H.out.symm), Below.refl _ _⟩
  · have e := cmpS_gt h
    have H := hide e
    clear e
    go_enter Try.func72, Try.ntmps72
    go_wp2
    go_ret
    exact ⟨congrArg Ending.returned (i64_eq H.out.symm), Below.refl _ _⟩
set_option maxHeartbeats 400000 in
theorem cmp_any (a b : Nat) (w : World) :
    Calls Try.prog 61 #[A a, A b] w (Gives (.int .i64 (cmpS a b)) w) := by
  by_cases h : hi a = hi b
  · have H := hide (cmp_lo h)
    have K : (((hi a : Nat) : Int) != ((hi b : Nat) : Int)) = false := by rw [h]; simp
    clear h
    go_enter Try.func61, Try.ntmps61
    go_wp2_with (go_at_call 72; refine (compare_any _ _ _).mono ?_; rintro e w' ⟨rfl, hb⟩)
    go_ret
    exact ⟨congrArg Ending.returned (i64_eq H.out), (((Below.refl _ _).alloc (Nat.le_refl _) _).alloc (by simp) _).trans (hb.mono (by simp; omega))⟩
  · have H := hide (cmp_hi h)
    have K : (((hi a : Nat) : Int) != ((hi b : Nat) : Int)) = true := by simp; omega
    clear h
    go_enter Try.func61, Try.ntmps61
    go_wp2_with (go_at_call 72; refine (compare_any _ _ _).mono ?_; rintro e w' ⟨rfl, hb⟩)
    go_ret
    exact ⟨congrArg Ending.returned (i64_eq H.out), (((Below.refl _ _).alloc (Nat.le_refl _) _).alloc (by simp) _).trans (hb.mono (by simp; omega))⟩
theorem wrap_sub {n : Int} (h : 64 ≤ n) (h2 : n ≤ 9223372036854775807) : wrap64 (n - 64) = n - 64 := IntWalk.wrap64_in _ ⟨by omega, by omega⟩
theorem div_big {x : Nat} (h : x < 18446744073709551616) (k : Nat) : (x : Int) / 2 ^ min (k + 64) 64 = 0 := by
  rw [show min (k + 64) 64 = 64 by omega, cast_div, Nat.div_eq_of_lt h]
  rfl
/-- an int that is not beyond the greatest one -/
def I63 (n : Int) : Prop := n ≤ 9223372036854775807
theorem shr_far {x : Nat} (hx : x < 18446744073709551616) (n : Int) (h : 128 ≤ n) (h2 : I63 n) (w : World) :
    (Op.shift BinOp.shr IntKind.u64 (x : Nat) IntKind.i64 (wrap64 (n - 64))).run Try.prog w = .ok (.int .u64 0) w := by
  rw [wrap_sub (by omega) h2, shift_shr_any _ _ _ _ (by omega)]
  have e := div_big hx (n.toNat - 128)
  rw [show n.toNat - 128 + 64 = (n - 64).toNat by omega] at e
  simp only [IntKind.bits, e]
  rfl
set_option maxHeartbeats 400000 in
theorem down_any {a : Nat} (ha : Fits a) (n : Int) (hn : I63 n) (w : World) :
    Calls Try.prog 83 #[A a, .int .i64 n] w (Gives (A (downS a n.toNat)) w) := by
  by_cases h0 : n ≤ 0
  · have H := hide (downS_none a)
    have E : n.toNat = 0 := by omega
    rw [E]
    clear E
    go_enter Try.func83, Try.ntmps83
    go_wp2
    exact bodyPost_ret (v := A (downS a 0)) (by simp [results, Try.results83, go_sem, H.out]) rfl ⟨rfl, ((Below.refl _ _).alloc (Nat.le_refl _) _).alloc (by simp) _⟩
  by_cases h1 : n < 64
  · have h0 : 0 < n := by omega
    go_enter Try.func83, Try.ntmps83
    go_wp2
    go_region
    go_wp2
    exact bodyPost_ret (v := A (downS a n.toNat)) (by simp [results, Try.results83, go_sem, w_down_lo a h0 h1, w_down_hi]) rfl ⟨rfl, (((Below.refl _ _).alloc (Nat.le_refl _) _).alloc (by simp) _).drew⟩
  by_cases h2 : n < 128
  · have h1 : 64 ≤ n := by omega
    have h0 : 0 < n := by omega
    have H := hide (w_down_big ha h1)
    have K := hide (hi_down_big ha (show 64 ≤ n.toNat by omega))
    go_enter Try.func83, Try.ntmps83
    go_wp2
    exact bodyPost_ret (v := A (downS a n.toNat)) (by simp [results, Try.results83, go_sem, H.out, K.out]) rfl ⟨rfl, ((Below.refl _ _).alloc (Nat.le_refl _) _).alloc (by simp) _⟩
  · have h1 : 64 ≤ n := by omega
    have h0 : 0 < n := by omega
    have K := hide (downS_zero ha (show 128 ≤ n.toNat by omega))
    have S := shr_far (hi_lt ha) n (by omega) hn
    go_enter Try.func83, Try.ntmps83
    go_wp2
    exact bodyPost_ret (v := A (downS a n.toNat)) (by simp [results, Try.results83, go_sem, K.out, hi_zero, lo_zero]) rfl ⟨rfl, ((Below.refl _ _).alloc (Nat.le_refl _) _).alloc (by simp) _⟩
theorem A_ones : Value.agg #[.int .u64 18446744073709551615, .int .u64 18446744073709551615] = A ones := by
  unfold A; rw [hi_ones, lo_ones]; rfl
set_option maxHeartbeats 400000 in
theorem tail_any (n : Int) (hn : I63 n) (w : World) :
    Calls Try.prog 67 #[.int .i64 n] w (Gives (A (downS ones n.toNat)) w) := by
  go_enter Try.func67, Try.ntmps67
  go_wp2_with fail
  rw [A_ones]
  refine (down_any fits_ones n hn _).mono ?_
  rintro e w' ⟨rfl, hb⟩
  obtain ⟨hc, hf⟩ := bcell hb
  have hz : w.heap.size < w'.heap.size := by have := hb.size; simp at this; omega
  go_wp2
  exact bodyPost_ret (v := A (downS ones n.toNat)) (by simp [results, Try.results67, go_sem, hc]) rfl ⟨rfl, ((((Below.refl _ _).alloc (Nat.le_refl _) _).trans (hb.mono (by simp))).setCell (by simp) _).setCell (by simp) _⟩
/-- a prefix as the program holds it -/
abbrev Pv (p : Nat) (n : Int) : Value := .agg #[.int .u64 (hi p : Nat), .int .u64 (lo p : Nat), .int .i64 n]
abbrev Rv (a b : Nat) : Value := .agg #[.int .u64 (hi a : Nat), .int .u64 (lo a : Nat), .int .u64 (hi b : Nat), .int .u64 (lo b : Nat)]
set_option maxHeartbeats 400000 in
theorem clip_any {a : Nat} (ha : Fits a) (n : Int) (w : World) :
    Calls Try.prog 66 #[A a, .int .i64 n] w (Gives (.tuple #[Pv (clipA a n) (clipN n), .bool (okN n)]) w) := by
  by_cases h0 : n < 0
  · have K := hide (show okN n = false by unfold okN; simp; omega)
    have K1 := hide (show clipA a n = 0 by unfold clipA; rw [K.out]; rfl)
    have K2 := hide (show clipN n = 0 by unfold clipN; rw [K.out]; rfl)
    go_enter Try.func66, Try.ntmps66
    go_wp2
    refine bodyPost_ret (v := .tuple #[Pv (clipA a n) (clipN n), .bool (okN n)]) ?_ rfl ⟨rfl, ((Below.refl _ _).alloc (Nat.le_refl _) _).alloc (by simp) _⟩
    rw [K.out, K1.out, K2.out]
    simp [results, Try.results66, go_sem, hi_zero, lo_zero]
  by_cases h1 : 128 < n
  · have K := hide (show okN n = false by unfold okN; simp; omega)
    have K1 := hide (show clipA a n = 0 by unfold clipA; rw [K.out]; rfl)
    have K2 := hide (show clipN n = 0 by unfold clipN; rw [K.out]; rfl)
    go_enter Try.func66, Try.ntmps66
    go_wp2
    refine bodyPost_ret (v := .tuple #[Pv (clipA a n) (clipN n), .bool (okN n)]) ?_ rfl ⟨rfl, ((Below.refl _ _).alloc (Nat.le_refl _) _).alloc (by simp) _⟩
    rw [K.out, K1.out, K2.out]
    simp [results, Try.results66, go_sem, hi_zero, lo_zero]
  · have h0 : 0 ≤ n := by omega
    have h1 : n ≤ 128 := by omega
    have K := hide (show okN n = true by unfold okN; simp; omega)
    have K1 := hide (show clipA a n = clipS a n.toNat by unfold clipA; rw [K.out]; rfl)
    have K2 := hide (show clipN n = n by unfold clipN; rw [K.out]; rfl)
    have K3 := hide (w_clip_hi ha (show n.toNat ≤ 128 by omega))
    have K4 := hide (w_clip_lo ha (show n.toNat ≤ 128 by omega))
    go_enter Try.func66, Try.ntmps66
    go_wp2_with fail
    refine (tail_any n (by unfold I63; omega) _).mono ?_
    rintro e w' ⟨rfl, hb⟩
    obtain ⟨hc, hf⟩ := bcell hb
    have hz : w.heap.size + 1 < w'.heap.size := by have := hb.size; simp at this; omega
    have hz0 : w.heap.size < w'.heap.size := by omega
    go_wp2
    refine bodyPost_ret (v := .tuple #[Pv (clipA a n) (clipN n), .bool (okN n)]) ?_ rfl ⟨rfl, ?_⟩
    · rw [K.out, K1.out, K2.out]
      simp [results, Try.results66, go_sem, hc, hz, K3.out, K4.out]
    · exact (((((((Below.refl _ _).alloc (Nat.le_refl _) _).alloc (by simp) _).trans (hb.mono (by simp; omega))).setCell (by simp) _).setCell (by simp) _).setCell (by simp) _).alloc (by simp; omega) _
theorem has_words (p : Nat) (n : Int) (a : Nat) : hasS p n a = (okN n && (decide (hi (clipA a n) = hi p) && decide (lo (clipA a n) = lo p))) := by
  unfold hasS
  by_cases h : okN n = true
  · have e : clipA a n = clipS a n.toNat := by unfold clipA; rw [if_pos h]
    rw [h, e, Bool.true_and, Bool.true_and]
    by_cases k : clipS a n.toNat = p
    · rw [k]; simp
    · rw [decide_eq_false k]
      symm
      rw [Bool.and_eq_false_iff]
      by_cases k1 : hi (clipS a n.toNat) = hi p
      · right
        exact decide_eq_false fun k2 => k (eq_of_words k1 k2)
      · left; exact decide_eq_false k1
  · simp [h]
theorem clipN_ok {n : Int} (h : okN n = true) : clipN n = n := by unfold clipN; rw [if_pos h]
set_option maxHeartbeats 400000 in
theorem has_any {p a : Nat} (ha : Fits a) (n : Int) (w : World) :
    Calls Try.prog 49 #[Pv p n, A a] w (Gives (.bool (hasS p n a)) w) := by
  have fin : ∀ w' : World, Below w.heap.size w w' → ∀ b : Bool, b = hasS p n a → Gives (.bool (hasS p n a)) w (.returned (.bool b)) w' := fun w' h b e => ⟨by rw [e], h⟩
  have hk : ∀ b : Bool, okN n = b → okN n = b := fun _ h => h
  by_cases ho : okN n = true
  · have hn := clipN_ok ho
    have F := hide (fin)
    clear fin hk
    go_enter Try.func49, Try.ntmps49
    go_wp2_with fail
    refine (clip_any ha n _).mono ?_
    rintro e w' ⟨rfl, hb⟩
    obtain ⟨hc, hf⟩ := bcell hb
    have hz : w.heap.size + 1 < w'.heap.size := by have := hb.size; simp at this; omega
    have hz0 : w.heap.size < w'.heap.size := by omega
    go_wp2
    all_goals go_ret
    all_goals refine F.out _ (((((Below.refl _ _).alloc (Nat.le_refl _) _).alloc (by simp) _).trans (hb.mono (by simp; omega))).alloc (by omega) _) _ ?_
    all_goals (rw [has_words]; simp [*]; try omega)
  · have hq : hasS p n a = false := by unfold hasS; simp [ho]
    have F := hide (fin)
    have Q := hide hq
    have ho : okN n = false := by simpa using ho
    clear fin hk hq
    go_enter Try.func49, Try.ntmps49
    go_wp2_with fail
    refine (clip_any ha n _).mono ?_
    rintro e w' ⟨rfl, hb⟩
    obtain ⟨hc, hf⟩ := bcell hb
    have hz : w.heap.size + 1 < w'.heap.size := by have := hb.size; simp at this; omega
    have hz0 : w.heap.size < w'.heap.size := by omega
    go_wp2
    go_ret
    exact F.out _ (((((Below.refl _ _).alloc (Nat.le_refl _) _).alloc (by simp) _).trans (hb.mono (by simp; omega))).alloc (by omega) _) _ Q.out.symm
set_option maxHeartbeats 400000 in
theorem sound_any {p : Nat} (hp : Fits p) (n : Int) (w : World) :
    Calls Try.prog 21 #[Pv p n] w (Gives (.bool (soundS p n)) w) := by
  go_enter Try.func21, Try.ntmps21
  go_wp2_with fail
  refine (has_any (p := p) hp n _).mono ?_
  rintro e w' ⟨rfl, hb⟩
  go_wp2
  go_ret
  exact ⟨rfl, ((Below.refl _ _).alloc (Nat.le_refl _) _).trans (hb.mono (by simp))⟩
set_option maxHeartbeats 400000 in
theorem span_any {p : Nat} (hp : Fits p) (n : Int) (w : World) :
    Calls Try.prog 50 #[Pv p n] w (Gives (Rv (firstA p n) (lastA p n)) w) := by
  by_cases hs : soundS p n = true
  · have ⟨⟨hn0, hn1⟩, hc0⟩ := sound_iff.1 hs
    have K1 := hide (show firstA p n = p by unfold firstA; rw [if_pos hs])
    have K2 := hide (show lastA p n = lastS p n.toNat by unfold lastA; rw [if_pos hs])
    have K3 := hide (w_last_hi hp hc0 (by omega))
    have K4 := hide (w_last_lo hc0 (by omega))
    clear hc0
    go_enter Try.func50, Try.ntmps50
    go_wp2_with fail
    refine (sound_any hp n _).mono ?_
    rintro e w' ⟨rfl, hb⟩
    obtain ⟨hc, hf⟩ := bcell hb
    have hz : w.heap.size + 1 < w'.heap.size := by have := hb.size; simp at this; omega
    have hz0 : w.heap.size < w'.heap.size := by omega
    go_wp2_with fail
    refine (tail_any n (by unfold I63; omega) _).mono ?_
    rintro e w2 ⟨rfl, hb2⟩
    obtain ⟨hc2, hf2⟩ := bcell hb2
    have hy : w.heap.size + 1 < w2.heap.size := by have := hb2.size; omega
    have hy0 : w.heap.size < w2.heap.size := by omega
    go_wp2
    refine bodyPost_ret (v := Rv (firstA p n) (lastA p n)) ?_ rfl ⟨rfl, ?_⟩
    · rw [K1.out, K2.out]
      simp [results, Try.results50, go_sem, hc, hc2, hz, hy, K3.out, K4.out]
    · exact ((((((((((Below.refl _ _).alloc (Nat.le_refl _) _).alloc (by simp) _).trans (hb.mono (by simp; omega))).trans (hb2.mono (by omega))).setCell (by simp) _).setCell (by simp) _).setCell (by simp) _).setCell (by simp) _).alloc (by simp; omega) _)
  · have hs : soundS p n = false := by simpa using hs
    have K1 := hide (show firstA p n = 0 by unfold firstA; rw [if_neg (by simp [hs])])
    have K2 := hide (show lastA p n = 0 by unfold lastA; rw [if_neg (by simp [hs])])
    go_enter Try.func50, Try.ntmps50
    go_wp2_with fail
    refine (sound_any hp n _).mono ?_
    rintro e w' ⟨rfl, hb⟩
    obtain ⟨hc, hf⟩ := bcell hb
    have hz : w.heap.size + 1 < w'.heap.size := by have := hb.size; simp at this; omega
    have hz0 : w.heap.size < w'.heap.size := by omega
    go_wp2
    refine bodyPost_ret (v := Rv (firstA p n) (lastA p n)) ?_ rfl ⟨rfl, ?_⟩
    · rw [K1.out, K2.out]
      simp [results, Try.results50, go_sem, hc, hi_zero, lo_zero]
    · exact ((((((((Below.refl _ _).alloc (Nat.le_refl _) _).alloc (by simp) _).trans (hb.mono (by simp; omega))).setCell (by simp) _).setCell (by simp) _).setCell (by simp) _).setCell (by simp) _)
set_option maxHeartbeats 400000 in
theorem covers_any {p q : Nat} (hq : Fits q) (n m : Int) (w : World) :
    Calls Try.prog 22 #[Pv p n, Pv q m] w (Gives (.bool (coversS p n q m)) w) := by
  have fin : ∀ (w' : World) (b : Bool), Below w.heap.size w w' → b = coversS p n q m → Gives (.bool (coversS p n q m)) w (.returned (.bool b)) w' := fun w' b h e => ⟨by rw [e], h⟩
  have F := hide (fin)
  clear fin
  go_enter Try.func22, Try.ntmps22
  go_wp2_with fail
  refine (sound_any hq m _).mono ?_
  rintro e w' ⟨rfl, hb⟩
  obtain ⟨hc, hf⟩ := bcell hb
  have hz : w.heap.size + 1 < w'.heap.size := by have := hb.size; simp at this; omega
  have hz0 : w.heap.size < w'.heap.size := by omega
  go_wp2_with (go_at_call 49; refine (has_any (p := p) hq n _).mono ?_; rintro e w2 ⟨rfl, hb2⟩)
  all_goals go_ret
  all_goals refine F.out _ _ ?_ ?_
  all_goals first
    | exact ((((Below.refl _ _).alloc (Nat.le_refl _) _).alloc (by simp) _).trans (hb.mono (by simp; omega))).trans (hb2.mono (by omega))
    | exact (((Below.refl _ _).alloc (Nat.le_refl _) _).alloc (by simp) _).trans (hb.mono (by simp; omega))
    | (unfold coversS; simp [*]; done)
    | (unfold coversS; simp [*]; omega)
set_option maxHeartbeats 400000 in
theorem meets_any {p q : Nat} (hp : Fits p) (hq : Fits q) (n m : Int) (w : World) :
    Calls Try.prog 40 #[Pv p n, Pv q m] w (Gives (.bool (meetsS p n q m)) w) := by
  have fin : ∀ (w' : World) (b : Bool), Below w.heap.size w w' → b = meetsS p n q m → Gives (.bool (meetsS p n q m)) w (.returned (.bool b)) w' := fun w' b h e => ⟨by rw [e], h⟩
  have F := hide (fin)
  clear fin
  go_enter Try.func40, Try.ntmps40
  go_wp2_with fail
  refine (covers_any (p := p) hq n m _).mono ?_
  rintro e w' ⟨rfl, hb⟩
  obtain ⟨hc, hf⟩ := bcell hb
  have hz : w.heap.size + 1 < w'.heap.size := by have := hb.size; simp at this; omega
  have hz0 : w.heap.size < w'.heap.size := by omega
  go_wp2_with (go_at_call 22; refine (covers_any (p := q) hp m n _).mono ?_; rintro e w2 ⟨rfl, hb2⟩)
  all_goals go_ret
  all_goals refine F.out _ _ ?_ ?_
  all_goals first
    | exact ((((Below.refl _ _).alloc (Nat.le_refl _) _).alloc (by simp) _).trans (hb.mono (by simp; omega))).trans (hb2.mono (by omega))
    | exact (((Below.refl _ _).alloc (Nat.le_refl _) _).alloc (by simp) _).trans (hb.mono (by simp; omega))
    | (unfold meetsS; simp [*]; done)
    | (unfold meetsS; simp [*]; omega)
theorem both {p q : Prop} (h : p) (k : p → q) : q := k h
theorem cell_keep {W w2 : World} {p : Go.Addr} {v : Value} (hb : Below W.heap.size W w2) (h : W.cell? p = some v) : w2.cell? p = some v := keep_cell hb h
theorem free_keep {W w2 : World} {p : Go.Addr} (hb : Below W.heap.size W w2) (hl : p.block < W.heap.size) (h : W.frozen? p = false) : w2.frozen? p = false := keep_free hb hl h


theorem rv_last (a b : Nat) (W : World) : (Instr.field 63 (Rv a b) 1).run Try.prog W = .ok (A b) W := by kernel_rfl

/-- three cells of a block, and that they may be written -/
def Three (g : Nat) (x y z : Value) (W : World) : Prop := W.cell? ⟨g, 0, none⟩ = some x ∧ W.cell? ⟨g, 1, none⟩ = some y ∧ W.cell? ⟨g, 2, none⟩ = some z ∧ W.frozen? ⟨g, 0, none⟩ = false ∧ W.frozen? ⟨g, 1, none⟩ = false ∧ W.frozen? ⟨g, 2, none⟩ = false ∧ g < W.heap.size
theorem Three.step {g : Nat} {x y z : Value} {W w2 : World} (h : Three g x y z W) (hb : Below W.heap.size W w2) : Three g x y z w2 := by
  obtain ⟨a, b, c, d, e, f, l⟩ := h
  have s := hb.size
  exact ⟨cell_keep hb a, cell_keep hb b, cell_keep hb c, free_keep hb l d, free_keep hb l e, free_keep hb l f, by omega⟩
theorem three_new (V : World) (x y z : Value) (t : TypeId) : Three V.heap.size x y z (V.alloc (.cells #[x, y, z] t)) := by
  refine ⟨by simp, by simp, by simp, ?_, ?_, ?_, by simp⟩ <;> simp [go_sem]
theorem three_a {V w2 : World} {x y z : Value} {t : TypeId} (hb : Below (V.alloc (.cells #[x, y, z] t)).heap.size (V.alloc (.cells #[x, y, z] t)) w2) : Three V.heap.size x y z w2 := (three_new V x y z t).step hb
theorem three_b {V w2 : World} {x y z : Value} {t : TypeId} (hb : Below (V.alloc (.cells #[x, y, z] t)).drew.heap.size (V.alloc (.cells #[x, y, z] t)).drew w2) : Three V.heap.size x y z w2 := ((three_new V x y z t).step (below_drew _)).step hb
theorem three_set {g : Nat} {x y z : Value} {W : World} (h : Three g x y z W) {p : Addr} (hp : p.block ≠ g) (u : Value) : Three g x y z (W.setCell p u) := by
  obtain ⟨a, b, c, d, e, f, l⟩ := h
  have k : ∀ o, (W.setCell p u).cell? ⟨g, o, none⟩ = W.cell? ⟨g, o, none⟩ := fun o => World.cell?_of_block (w := W) (Below.heap_setCell W p u g (Ne.symm hp))
  have m : ∀ o, (W.setCell p u).frozen? ⟨g, o, none⟩ = W.frozen? ⟨g, o, none⟩ := fun o => World.frozen?_of_block (w := W) (Below.heap_setCell W p u g (Ne.symm hp))
  have z : (W.setCell p u).heap.size = W.heap.size := by simp
  refine ⟨?_, ?_, ?_, ?_, ?_, ?_, by omega⟩
  · rw [k]; exact a
  · rw [k]; exact b
  · rw [k]; exact c
  · rw [m]; exact d
  · rw [m]; exact e
  · rw [m]; exact f

/-- the blocks of the call: the prefix, the two results' places, the lower half -/
def HeldH (w : World) (p : Nat) (n : Int) (g : Nat) (W : World) : Prop := Below w.heap.size w W ∧ w.heap.size + 1 + 1 < g ∧
  Three w.heap.size (.int .u64 (hi p : Nat)) (.int .u64 (lo p : Nat)) (.int .i64 n) W ∧ Three (w.heap.size + 1) (.int .u64 0) (.int .u64 0) (.int .i64 0) W ∧
  Three (w.heap.size + 1 + 1) (.int .u64 0) (.int .u64 0) (.int .i64 0) W ∧ Three g (.int .u64 (hi p : Nat)) (.int .u64 (lo p : Nat)) (.int .i64 (n + 1)) W
theorem HeldH.step {w : World} {p : Nat} {n : Int} {g : Nat} {W w2 : World} (h : HeldH w p n g W) (hb : Below W.heap.size W w2) : HeldH w p n g w2 := by
  obtain ⟨a, b, c, d, e, f⟩ := h
  exact ⟨a.trans (hb.mono a.size), b, c.step hb, d.step hb, e.step hb, f.step hb⟩
theorem HeldH.alloc {w : World} {p : Nat} {n : Int} {g : Nat} {W : World} (h : HeldH w p n g W) (o : Obj) : HeldH w p n g (W.alloc o) := h.step (below_alloc W o)
theorem HeldH.drew {w : World} {p : Nat} {n : Int} {g : Nat} {W : World} (h : HeldH w p n g W) : HeldH w p n g W.drew := h.step (below_drew W)
theorem HeldH.set {w : World} {p : Nat} {n : Int} {g : Nat} {W : World} (h : HeldH w p n g W) {q : Addr} (hq : g < q.block) (u : Value) : HeldH w p n g (W.setCell q u) := by
  obtain ⟨a, b, c, d, e, f⟩ := h
  exact ⟨a.setCell (by omega) u, b, three_set c (by omega) u, three_set d (by omega) u, three_set e (by omega) u, three_set f (by omega) u⟩
theorem heldH_lt {w : World} {p : Nat} {n : Int} {g : Nat} {W : World} (h : HeldH w p n g W) : g < W.heap.size := by
  obtain ⟨_, _, _, _, _, _, _, _, _, _, _, l⟩ := h
  exact l
theorem heldH_all {w : World} {p : Nat} {n : Int} {g : Nat} {W : World} (h : HeldH w p n g W) : HeldH w p n g W ∧ W.cell? ⟨w.heap.size, 0, none⟩ = some (.int .u64 (hi p : Nat)) ∧
    W.cell? ⟨w.heap.size, 1, none⟩ = some (.int .u64 (lo p : Nat)) ∧ W.cell? ⟨w.heap.size, 2, none⟩ = some (.int .i64 n) := by
  have h' := h
  obtain ⟨_, _, ⟨c0, c1, c2, _⟩, _⟩ := h'
  exact ⟨h, c0, c1, c2⟩

set_option maxHeartbeats 2000000 in
theorem halves_yes {p : Nat} (hp : Fits p) (n : Int) (hs : soundS p n = true) (h1 : n ≠ 128) (w : World) :
    Calls Try.prog 65 #[Pv p n] w (Gives (.tuple #[Pv (lowA p n) (halfN p n), Pv (highA p n) (halfN p n), .bool (halfOk p n)]) w) := by
  have hne : (n == 128) = false := by simpa using h1
  have ⟨⟨hn0, hn1⟩, hc0⟩ := sound_iff.1 hs
  have hn2 : n < 128 := by omega
  have ho : halfOk p n = true := by unfold halfOk; rw [hs, hne]; rfl
  have Q0 := hide ho
  have Q1 := hide (show lowA p n = p by unfold lowA; rw [if_pos ho])
  have Q2 := hide (show halfN p n = n + 1 by unfold halfN; rw [if_pos ho])
  have hok : okN (n + 1) = true := by unfold okN; simp; omega
  have K1 := show lastA p n = lastS p n.toNat by unfold lastA; rw [if_pos hs]
  have Q3 := hide (show highA p n = clipA (lastA p n) (n + 1) by
    unfold highA clipA
    rw [if_pos ho, if_pos hok, K1, show (n + 1).toNat = n.toNat + 1 by omega]
    exact (high_clip hc0 (by omega)).symm)
  have KF : Fits (lastA p n) := by rw [K1]; exact fits_lastS hp hc0 (by omega)
  have HW := hide (show IntKind.i64.wrap (n + 1) = n + 1 from IntWalk.i64_in _ ⟨by omega, by omega⟩)
  have hcn := clipN_ok hok
  have hfld := rv_last (firstA p n) (lastA p n)
  clear hc0 K1 ho
  go_enter Try.func65, Try.ntmps65
  go_wp2_with fail
  refine (sound_any hp n _).mono ?_
  rintro e w' ⟨rfl, hb⟩
  obtain ⟨hc, hf⟩ := bcell hb
  have hz := hb.size
  simp at hz
  have hz0 : w.heap.size < w'.heap.size := by omega
  have hz1 : w.heap.size + 1 < w'.heap.size := by omega
  have hz2 : w.heap.size + 1 + 1 < w'.heap.size := by omega
  have HH0 : HeldH w p n w'.heap.size (w'.alloc (.cells #[.int .u64 (hi p : Nat), .int .u64 (lo p : Nat), .int .i64 (n + 1)] 26)) := by
    refine ⟨((((Below.refl _ _).alloc (Nat.le_refl _) _).alloc (by simp) _).alloc (by simp; omega) _ |>.trans (hb.mono (by simp; omega))).alloc (by omega) _, hz2, ?_, ?_, ?_, three_new _ _ _ _ _⟩
    · exact (((three_new w _ _ _ _).step (below_alloc _ _)).step (below_alloc _ _)).step hb |>.step (below_alloc _ _)
    · have := ((three_new (w.alloc (.cells #[.int .u64 (hi p : Nat), .int .u64 (lo p : Nat), .int .i64 n] 26)) (.int .u64 0) (.int .u64 0) (.int .i64 0) 26).step (below_alloc _ _)).step hb |>.step (below_alloc _ (.cells #[.int .u64 (hi p : Nat), .int .u64 (lo p : Nat), .int .i64 (n + 1)] 26))
      simpa using this
    · have := (three_new ((w.alloc (.cells #[.int .u64 (hi p : Nat), .int .u64 (lo p : Nat), .int .i64 n] 26)).alloc (.cells #[.int .u64 0, .int .u64 0, .int .i64 0] 26)) (.int .u64 0) (.int .u64 0) (.int .i64 0) 26).step hb |>.step (below_alloc _ (.cells #[.int .u64 (hi p : Nat), .int .u64 (lo p : Nat), .int .i64 (n + 1)] 26))
      simpa using this
  go_wp2_with fail
  generalize hg : w'.heap.size = g at *
  generalize w'.alloc (.cells #[.int .u64 (hi p : Nat), .int .u64 (lo p : Nat), .int .i64 (n + 1)] 26) = V at *
  clear hc hf hz hg hb
  have HHa := heldH_all HH0
  obtain ⟨_, e0, e1, e2⟩ := HHa
  have zV := HH0.1.size
  go_region_held3 (fun W => HeldH w p n g W ∧ W.cell? ⟨w.heap.size, 0, none⟩ = some (.int .u64 (hi p : Nat)) ∧ W.cell? ⟨w.heap.size, 1, none⟩ = some (.int .u64 (lo p : Nat)) ∧ W.cell? ⟨w.heap.size, 2, none⟩ = some (.int .i64 n))
    (first
      | (refine heldH_all ?_; (first | exact HH0.drew | exact HH0.drew.alloc _ | exact (HH0.alloc _).drew))
      | (refine heldH_all ?_; (refine HeldH.step ?_ hb2; (first | exact HH0.drew | exact HH0.drew.alloc _ | exact (HH0.alloc _).drew)))
      | (refine heldH_all (HeldH.alloc ?_ _); (refine HeldH.step ?_ hb2; (first | exact HH0.drew | exact HH0.drew.alloc _ | exact (HH0.alloc _).drew)))
      | (refine heldH_all ?_; (refine HeldH.step ?_ hb3; first | (refine HeldH.step ?_ hb2; (first | exact HH0.drew | exact HH0.drew.alloc _ | exact (HH0.alloc _).drew)) | (refine HeldH.alloc ?_ _; (refine HeldH.step ?_ hb2; (first | exact HH0.drew | exact HH0.drew.alloc _ | exact (HH0.alloc _).drew)))))
      | (refine heldH_all (HeldH.alloc ?_ _); (refine HeldH.step ?_ hb3; first | (refine HeldH.step ?_ hb2; (first | exact HH0.drew | exact HH0.drew.alloc _ | exact (HH0.alloc _).drew)) | (refine HeldH.alloc ?_ _; (refine HeldH.step ?_ hb2; (first | exact HH0.drew | exact HH0.drew.alloc _ | exact (HH0.alloc _).drew)))))
      | (refine heldH_all (HeldH.set (HeldH.set (HeldH.set ?_ ?_ _) ?_ _) ?_ _); (refine HeldH.step ?_ hb3; first | (refine HeldH.step ?_ hb2; (first | exact HH0.drew | exact HH0.drew.alloc _ | exact (HH0.alloc _).drew)) | (refine HeldH.alloc ?_ _; (refine HeldH.step ?_ hb2; (first | exact HH0.drew | exact HH0.drew.alloc _ | exact (HH0.alloc _).drew)))); all_goals (have zz := hb2.size; (try simp at zz); have zy := heldH_lt HH0; dsimp only; omega)))
    (first
      | (go_at_call 50; refine (span_any hp n _).mono ?_; rintro e w2 ⟨rfl, hb2⟩; (first | (refine both (three_b hb2) ?_; intro fr2) | (refine both (three_a hb2) ?_; intro fr2) | skip))
      | (go_at_call 66; refine (clip_any KF _ _).mono ?_; rintro e w3 ⟨rfl, hb3⟩; (first | (refine both (Three.step fr2 hb3) ?_; rintro ⟨q1, q2, q3, q4, q5, q6, q7⟩) | skip); (first | (refine both (three_a hb3) ?_; rintro ⟨r1, r2, r3, r4, r5, r6, r7⟩) | skip)))
  all_goals
    rename_i hF
    clear hF
    have H3 : HeldH w p n g w3 := by (refine HeldH.step ?_ hb3; first | (refine HeldH.step ?_ hb2; (first | exact HH0.drew | exact HH0.drew.alloc _ | exact (HH0.alloc _).drew)) | (refine HeldH.alloc ?_ _; (refine HeldH.step ?_ hb2; (first | exact HH0.drew | exact HH0.drew.alloc _ | exact (HH0.alloc _).drew))))
    have y2 : g < w2.heap.size := by have zz := hb2.size; (try simp at zz); have zy := heldH_lt HH0; omega
    have gV : g < V.heap.size := heldH_lt HH0
    have zw := hb3.size
    (try simp at zw)
    obtain ⟨HB, hl, ⟨a0, a1, a2, a3, a4, a5, a6⟩, ⟨b0, b1, b2, b3, b4, b5, b6⟩, ⟨c0, c1, c2, c3, c4, c5, c6⟩, ⟨d0, d1, d2, d3, d4, d5, d6⟩⟩ := H3
    clear zV HH0 hb2 hb3 e0 e1 e2
    rw [HW.out]
    go_wp2_with fail
    go_region
    go_wp2
    refine bodyPost_ret (v := .tuple #[Pv (lowA p n) (halfN p n), Pv (highA p n) (halfN p n), .bool (halfOk p n)]) ?_ rfl ⟨rfl, ?_⟩
    · rw [Q0.out, Q1.out, Q2.out, Q3.out]
      simp [results, Try.results65, go_sem, *]
    · repeat' (first | (with_reducible exact HB) | (with_reducible apply Below.drew) | (with_reducible apply Below.alloc) | (with_reducible apply Below.setCell))
      all_goals first | omega | (dsimp only; omega) | (simp; omega)

set_option maxHeartbeats 1000000 in
theorem halves_no {p : Nat} (hp : Fits p) (n : Int) (hs : soundS p n = false ∨ n = 128) (w : World) :
    Calls Try.prog 65 #[Pv p n] w (Gives (.tuple #[Pv (lowA p n) (halfN p n), Pv (highA p n) (halfN p n), .bool (halfOk p n)]) w) := by
  have ho : halfOk p n = false := by
    unfold halfOk
    rcases hs with h | h
    · rw [h]; rfl
    · rw [h]; simp
  have Q0 := hide ho
  have Q1 := hide (show lowA p n = 0 by unfold lowA; rw [if_neg (by simp [ho])])
  have Q2 := hide (show halfN p n = 0 by unfold halfN; rw [if_neg (by simp [ho])])
  have Q3 := hide (show highA p n = 0 by unfold highA; rw [if_neg (by simp [ho])])
  clear ho
  cases hb0 : soundS p n
  · go_enter Try.func65, Try.ntmps65
    go_wp2_with fail
    refine (sound_any hp n _).mono ?_
    rintro e w' ⟨rfl, hb⟩
    obtain ⟨hc, hf⟩ := bcell hb
    have hz := hb.size
    simp at hz
    have hz0 : w.heap.size < w'.heap.size := by omega
    have hz1 : w.heap.size + 1 < w'.heap.size := by omega
    have hz2 : w.heap.size + 1 + 1 < w'.heap.size := by omega
    go_wp2_with fail
    refine bodyPost_ret (v := .tuple #[Pv (lowA p n) (halfN p n), Pv (highA p n) (halfN p n), .bool (halfOk p n)]) ?_ rfl ⟨rfl, ?_⟩
    · rw [Q0.out, Q1.out, Q2.out, Q3.out]
      simp [results, Try.results65, go_sem, hc, hi_zero, lo_zero]
    · have HB := (((Below.refl w.heap.size w).alloc (Nat.le_refl _) (.cells #[.int .u64 (hi p : Nat), .int .u64 (lo p : Nat), .int .i64 n] 26)).alloc (by simp) (.cells #[.int .u64 0, .int .u64 0, .int .i64 0] 26)).alloc (by simp; omega) (.cells #[.int .u64 0, .int .u64 0, .int .i64 0] 26) |>.trans (hb.mono (by simp; omega))
      repeat' (first | (with_reducible exact HB) | (with_reducible apply Below.drew) | (with_reducible apply Below.alloc) | (with_reducible apply Below.setCell))
      all_goals first | omega | (dsimp only; omega) | (simp; omega)
  · have hn : n = 128 := by
      rcases hs with h | h
      · rw [hb0] at h; cases h
      · exact h
    have hne : (n == 128) = true := by simpa using hn
    clear hs hn
    go_enter Try.func65, Try.ntmps65
    go_wp2_with fail
    refine (sound_any hp n _).mono ?_
    rintro e w' ⟨rfl, hb⟩
    obtain ⟨hc, hf⟩ := bcell hb
    have hz := hb.size
    simp at hz
    have hz0 : w.heap.size < w'.heap.size := by omega
    have hz1 : w.heap.size + 1 < w'.heap.size := by omega
    have hz2 : w.heap.size + 1 + 1 < w'.heap.size := by omega
    go_wp2_with fail
    refine bodyPost_ret (v := .tuple #[Pv (lowA p n) (halfN p n), Pv (highA p n) (halfN p n), .bool (halfOk p n)]) ?_ rfl ⟨rfl, ?_⟩
    · rw [Q0.out, Q1.out, Q2.out, Q3.out]
      simp [results, Try.results65, go_sem, hc, hi_zero, lo_zero]
    · have HB := (((Below.refl w.heap.size w).alloc (Nat.le_refl _) (.cells #[.int .u64 (hi p : Nat), .int .u64 (lo p : Nat), .int .i64 n] 26)).alloc (by simp) (.cells #[.int .u64 0, .int .u64 0, .int .i64 0] 26)).alloc (by simp; omega) (.cells #[.int .u64 0, .int .u64 0, .int .i64 0] 26) |>.trans (hb.mono (by simp; omega))
      repeat' (first | (with_reducible exact HB) | (with_reducible apply Below.drew) | (with_reducible apply Below.alloc) | (with_reducible apply Below.setCell))
      all_goals first | omega | (dsimp only; omega) | (simp; omega)

theorem halves_any {p : Nat} (hp : Fits p) (n : Int) (w : World) :
    Calls Try.prog 65 #[Pv p n] w (Gives (.tuple #[Pv (lowA p n) (halfN p n), Pv (highA p n) (halfN p n), .bool (halfOk p n)]) w) := by
  by_cases h : soundS p n = true ∧ n ≠ 128
  · exact halves_yes hp n h.1 h.2 w
  · refine halves_no hp n ?_ w
    by_cases k : n = 128
    · exact Or.inr k
    · left
      cases e : soundS p n
      · rfl
      · exact absurd ⟨e, k⟩ h
end Go.Proofs.Ytpieddddckbfdaa
