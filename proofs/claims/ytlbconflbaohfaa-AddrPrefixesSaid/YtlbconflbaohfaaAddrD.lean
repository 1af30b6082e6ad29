/-
  Contracts of the calls on addresses (Compare, Cmp, Up, Down, tail, Of4, To4): what each returns for every address of 128 bits, and that no memory that existed is changed. Condition of each: the words are words of 64 bits (every value of the type is such), an int is an int of 64 bits.
-/
import Derived.Test.YtlbconflbaohfaaAddrC
import Derived.Test.YtlbconflbaohfaaAddrP
namespace Go.Proofs.Ytlbconflbaohfaa
open Go.RowKit

theorem bcell {W w1 : World} (hb : Below W.heap.size W w1) : (∀ b o, b < W.heap.size → w1.cell? ⟨b, o, none⟩ = W.cell? ⟨b, o, none⟩) ∧ (∀ b o, b < W.heap.size → w1.frozen? ⟨b, o, none⟩ = W.frozen? ⟨b, o, none⟩) :=
  ⟨fun b o h => hb.cell (p := ⟨b, o, none⟩) h, fun b o h => hb.frozen (p := ⟨b, o, none⟩) h⟩
theorem cmpS_lt {a b : Nat} (h : a < b) : cmpS a b = -1 := by unfold cmpS; rw [if_pos h]
theorem cmpS_gt {a b : Nat} (h : b < a) : cmpS a b = 1 := by unfold cmpS; rw [if_neg (by omega), if_pos h]
theorem cmpS_eq {a b : Nat} (h : a = b) : cmpS a b = 0 := by unfold cmpS; rw [if_neg (by omega), if_neg (by omega)]

set_option maxHeartbeats 400000 in
theorem compare_any (x y : Nat) (w : World) :
    Calls Try.prog 47 #[.int .u64 (x : Nat), .int .u64 (y : Nat)] w (Gives (.int .i64 (cmpS x y)) w) := by
  rcases Nat.lt_trichotomy x y with h | h | h
  · have e := cmpS_lt h
    have H := hide e
    clear e
    go_enter Try.func47, Try.ntmps47
    go_wp2
    go_ret
    exact ⟨congrArg Ending.returned (i64_eq H.out.symm), Below.refl _ _⟩
  · subst h
    have H := hide (cmpS_eq (rfl : x = x))
    go_enter Try.func47, Try.ntmps47
    go_wp2
    go_ret
    exact ⟨congrArg Ending.returned (i64_eq H.out.symm), Below.refl _ _⟩
  · have e := cmpS_gt h
    have H := hide e
    clear e
    go_enter Try.func47, Try.ntmps47
    go_wp2
    go_ret
    exact ⟨congrArg Ending.returned (i64_eq H.out.symm), Below.refl _ _⟩

set_option maxHeartbeats 400000 in
theorem cmp_any (a b : Nat) (w : World) :
    Calls Try.prog 19 #[A a, A b] w (Gives (.int .i64 (cmpS a b)) w) := by
  by_cases h : hi a = hi b
  · have H := hide (cmp_lo h)
    have K : (((hi a : Nat) : Int) != ((hi b : Nat) : Int)) = false := by rw [h]; simp
    clear h
    go_enter Try.func19, Try.ntmps19
    go_wp2_with (go_at_call 47; refine (compare_any _ _ _).mono ?_; rintro e w' ⟨rfl, hb⟩)
    go_ret
    exact ⟨congrArg Ending.returned (i64_eq H.out), (((Below.refl _ _).alloc (Nat.le_refl _) _).alloc (by simp) _).trans (hb.mono (by simp; omega))⟩
  · have H := hide (cmp_hi h)
    have K : (((hi a : Nat) : Int) != ((hi b : Nat) : Int)) = true := by simp; omega
    clear h
    go_enter Try.func19, Try.ntmps19
    go_wp2_with (go_at_call 47; refine (compare_any _ _ _).mono ?_; rintro e w' ⟨rfl, hb⟩)
    go_ret
    exact ⟨congrArg Ending.returned (i64_eq H.out), (((Below.refl _ _).alloc (Nat.le_refl _) _).alloc (by simp) _).trans (hb.mono (by simp; omega))⟩

/-! ### shifts -/
theorem wrap_sub {n : Int} (h : 64 ≤ n) (h2 : n ≤ 9223372036854775807) : wrap64 (n - 64) = n - 64 := IntWalk.wrap64_in _ ⟨by omega, by omega⟩

theorem wrap_big (x k : Nat) : IntKind.u64.wrap ((x : Int) * 2 ^ min (k + 64) 64) = 0 := by
  rw [show min (k + 64) 64 = 64 by omega, IntKind.wrap_u64]
  omega
theorem div_big {x : Nat} (h : x < 18446744073709551616) (k : Nat) : (x : Int) / 2 ^ min (k + 64) 64 = 0 := by
  rw [show min (k + 64) 64 = 64 by omega, cast_div, Nat.div_eq_of_lt h]
  rfl

/-- an int that is not beyond the greatest one -/
def I63 (n : Int) : Prop := n ≤ 9223372036854775807

theorem shl_far {x : Nat} (n : Int) (h : 128 ≤ n) (h2 : I63 n) (w : World) :
    (Op.shift BinOp.shl IntKind.u64 (x : Nat) IntKind.i64 (wrap64 (n - 64))).run Try.prog w = .ok (.int .u64 0) w := by
  rw [wrap_sub (by omega) h2, shift_shl_any _ _ _ _ (by omega)]
  have e := wrap_big x (n.toNat - 128)
  rw [show n.toNat - 128 + 64 = (n - 64).toNat by omega] at e
  simp only [IntKind.bits, e]
  rfl
theorem shr_far {x : Nat} (hx : x < 18446744073709551616) (n : Int) (h : 128 ≤ n) (h2 : I63 n) (w : World) :
    (Op.shift BinOp.shr IntKind.u64 (x : Nat) IntKind.i64 (wrap64 (n - 64))).run Try.prog w = .ok (.int .u64 0) w := by
  rw [wrap_sub (by omega) h2, shift_shr_any _ _ _ _ (by omega)]
  have e := div_big hx (n.toNat - 128)
  rw [show n.toNat - 128 + 64 = (n - 64).toNat by omega] at e
  simp only [IntKind.bits, e]
  rfl

set_option maxHeartbeats 400000 in
theorem up_any {a : Nat} (ha : Fits a) (n : Int) (hn : I63 n) (w : World) :
    Calls Try.prog 21 #[A a, .int .i64 n] w (Gives (A (upS a n.toNat)) w) := by
  by_cases h0 : n ≤ 0
  · have H := hide (upS_none ha)
    have E : n.toNat = 0 := by omega
    rw [E]
    clear E
    go_enter Try.func21, Try.ntmps21
    go_wp2
    exact bodyPost_ret (v := A (upS a 0)) (by simp [results, Try.results21, go_sem, H.out]) rfl ⟨rfl, ((Below.refl _ _).alloc (Nat.le_refl _) _).alloc (by simp) _⟩
  by_cases h1 : n < 64
  · have h0 : 0 < n := by omega
    go_enter Try.func21, Try.ntmps21
    go_wp2
    go_region
    go_wp2
    exact bodyPost_ret (v := A (upS a n.toNat)) (by simp [results, Try.results21, go_sem, w_up_hi a h0 h1, w_up_lo]) rfl ⟨rfl, (((Below.refl _ _).alloc (Nat.le_refl _) _).alloc (by simp) _).drew⟩
  by_cases h2 : n < 128
  · have h1 : 64 ≤ n := by omega
    have h0 : 0 < n := by omega
    have H := hide (w_up_big a h1)
    have K := hide (lo_up_big (a := a) (show 64 ≤ n.toNat by omega))
    go_enter Try.func21, Try.ntmps21
    go_wp2
    exact bodyPost_ret (v := A (upS a n.toNat)) (by simp [results, Try.results21, go_sem, H.out, K.out]) rfl ⟨rfl, ((Below.refl _ _).alloc (Nat.le_refl _) _).alloc (by simp) _⟩
  · have h1 : 64 ≤ n := by omega
    have h0 : 0 < n := by omega
    have K := hide (upS_zero (a := a) (show 128 ≤ n.toNat by omega))
    have S := shl_far (x := lo a) n (by omega) hn
    go_enter Try.func21, Try.ntmps21
    go_wp2
    exact bodyPost_ret (v := A (upS a n.toNat)) (by simp [results, Try.results21, go_sem, K.out, hi_zero, lo_zero]) rfl ⟨rfl, ((Below.refl _ _).alloc (Nat.le_refl _) _).alloc (by simp) _⟩

set_option maxHeartbeats 400000 in
theorem down_any {a : Nat} (ha : Fits a) (n : Int) (hn : I63 n) (w : World) :
    Calls Try.prog 23 #[A a, .int .i64 n] w (Gives (A (downS a n.toNat)) w) := by
  by_cases h0 : n ≤ 0
  · have H := hide (downS_none a)
    have E : n.toNat = 0 := by omega
    rw [E]
    clear E
    go_enter Try.func23, Try.ntmps23
    go_wp2
    exact bodyPost_ret (v := A (downS a 0)) (by simp [results, Try.results23, go_sem, H.out]) rfl ⟨rfl, ((Below.refl _ _).alloc (Nat.le_refl _) _).alloc (by simp) _⟩
  by_cases h1 : n < 64
  · have h0 : 0 < n := by omega
    go_enter Try.func23, Try.ntmps23
    go_wp2
    go_region
    go_wp2
    exact bodyPost_ret (v := A (downS a n.toNat)) (by simp [results, Try.results23, go_sem, w_down_lo a h0 h1, w_down_hi]) rfl ⟨rfl, (((Below.refl _ _).alloc (Nat.le_refl _) _).alloc (by simp) _).drew⟩
  by_cases h2 : n < 128
  · have h1 : 64 ≤ n := by omega
    have h0 : 0 < n := by omega
    have H := hide (w_down_big ha h1)
    have K := hide (hi_down_big ha (show 64 ≤ n.toNat by omega))
    go_enter Try.func23, Try.ntmps23
    go_wp2
    exact bodyPost_ret (v := A (downS a n.toNat)) (by simp [results, Try.results23, go_sem, H.out, K.out]) rfl ⟨rfl, ((Below.refl _ _).alloc (Nat.le_refl _) _).alloc (by simp) _⟩
  · have h1 : 64 ≤ n := by omega
    have h0 : 0 < n := by omega
    have K := hide (downS_zero ha (show 128 ≤ n.toNat by omega))
    have S := shr_far (hi_lt ha) n (by omega) hn
    go_enter Try.func23, Try.ntmps23
    go_wp2
    exact bodyPost_ret (v := A (downS a n.toNat)) (by simp [results, Try.results23, go_sem, K.out, hi_zero, lo_zero]) rfl ⟨rfl, ((Below.refl _ _).alloc (Nat.le_refl _) _).alloc (by simp) _⟩

theorem A_ones : Value.agg #[.int .u64 18446744073709551615, .int .u64 18446744073709551615] = A ones := by
  unfold A; rw [hi_ones, lo_ones]; rfl

set_option maxHeartbeats 400000 in
theorem tail_any (n : Int) (hn : I63 n) (w : World) :
    Calls Try.prog 48 #[.int .i64 n] w (Gives (A (downS ones n.toNat)) w) := by
  go_enter Try.func48, Try.ntmps48
  go_wp2_with fail
  rw [A_ones]
  refine (down_any fits_ones n hn _).mono ?_
  rintro e w' ⟨rfl, hb⟩
  obtain ⟨hc, hf⟩ := bcell hb
  have hz : w.heap.size < w'.heap.size := by have := hb.size; simp at this; omega
  go_wp2
  exact bodyPost_ret (v := A (downS ones n.toNat)) (by simp [results, Try.results48, go_sem, hc]) rfl ⟨rfl, ((((Below.refl _ _).alloc (Nat.le_refl _) _).trans (hb.mono (by simp))).setCell (by simp) _).setCell (by simp) _⟩

/-! ### addresses of 32 bits -/
theorem hi_small {n : Nat} (h : n < 18446744073709551616) : hi n = 0 := by unfold hi; omega
theorem lo_small {n : Nat} (h : n < 18446744073709551616) : lo n = n := by unfold lo; omega
set_option maxHeartbeats 400000 in
theorem of4_any (n : Nat) (hn : n < 4294967296) (w : World) :
    Calls Try.prog 25 #[.int .u32 (n : Nat)] w (Gives (A n) w) := by
  have H := hide (hi_small (show n < 18446744073709551616 by omega))
  have K := hide (lo_small (show n < 18446744073709551616 by omega))
  go_enter Try.func25, Try.ntmps25
  go_wp2
  exact bodyPost_ret (v := A n) (by simp [results, Try.results25, go_sem, H.out, K.out]) rfl ⟨rfl, (Below.refl _ _).alloc (Nat.le_refl _) _⟩
set_option maxHeartbeats 400000 in
theorem rof4_any (n : Nat) (hn : n < 4294967296) (w : World) :
    Calls Try.prog 26 #[.int .u32 (n : Nat)] w (Gives (A n) w) := by
  have H := hide (hi_small (show n < 18446744073709551616 by omega))
  have K := hide (lo_small (show n < 18446744073709551616 by omega))
  go_enter Try.func26, Try.ntmps26
  go_wp2
  exact bodyPost_ret (v := A n) (by simp [results, Try.results26, go_sem, H.out, K.out]) rfl ⟨rfl, (Below.refl _ _).alloc (Nat.le_refl _) _⟩

def to4S (a : Nat) : Nat := if a < 4294967296 then a else 0
def to4O (a : Nat) : Bool := decide (a < 4294967296)
set_option maxHeartbeats 400000 in
theorem to4_any (a : Nat) (w : World) :
    Calls Try.prog 17 #[A a] w (Gives (.tuple #[.int .u32 (to4S a : Nat), .bool (to4O a)]) w) := by
  have hl := lo_lt a
  have e := hi_lo a
  by_cases h : a < 4294967296
  · have H := hide (show to4S a = lo a by unfold to4S; rw [if_pos h, lo_small (by omega)])
    have K := hide (show to4O a = true by unfold to4O; simpa using h)
    have h1 : hi a = 0 := hi_small (by omega)
    have h2 : ((hi a : Int) != 0) = false := by rw [h1]; rfl
    have h3 : ¬ (4294967295 < (lo a : Int)) := by omega
    clear h hl e h1
    go_enter Try.func17, Try.ntmps17
    go_wp2
    go_ret2
    exact ⟨congrArg Ending.returned (tup2 (by rw [H.out]; rfl) (bool_eq K.out.symm)), (Below.refl _ _).alloc (Nat.le_refl _) _⟩
  · have H := hide (show to4S a = 0 by unfold to4S; rw [if_neg h])
    have K := hide (show to4O a = false by unfold to4O; simpa using h)
    by_cases h1 : hi a = 0
    · have h2 : ((hi a : Int) != 0) = false := by rw [h1]; rfl
      have h3 : 4294967295 < (lo a : Int) := by omega
      clear h hl e h1
      go_enter Try.func17, Try.ntmps17
      go_wp2
      go_ret2
      exact ⟨congrArg Ending.returned (tup2 (by rw [H.out]; rfl) (bool_eq K.out.symm)), (Below.refl _ _).alloc (Nat.le_refl _) _⟩
    · have h2 : ((hi a : Int) != 0) = true := by simpa using h1
      clear h hl e h1
      go_enter Try.func17, Try.ntmps17
      go_wp2
      go_ret2
      exact ⟨congrArg Ending.returned (tup2 (by rw [H.out]; rfl) (bool_eq K.out.symm)), (Below.refl _ _).alloc (Nat.le_refl _) _⟩
end Go.Proofs.Ytlbconflbaohfaa
