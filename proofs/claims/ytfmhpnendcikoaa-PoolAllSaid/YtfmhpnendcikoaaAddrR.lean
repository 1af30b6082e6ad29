/-
  Contracts of Div64 and Rem64: the rest of a number of two words by a word. Conditions: words of 64 bits, the divisor not 0 (Div64: greater than the high word); the world stays as it is, but for its count of draws.
-/
import Derived.Test.YtfmhpnendcikoaaAddrQ
import Derived.Deep.QuietTactic
import Derived.BigQuiet
namespace Go.Proofs.Ytfmhpnendcikoaa
open Go.RowKit

theorem w_or_upper {h l s : Nat} (hs : s ≤ 63) (hl : l < 18446744073709551616) (hb : upper h l s < 18446744073709551616) :
    bits .or .u64 ((h * 2 ^ s : Nat) : Int) ((l : Int) / 2 ^ (64 - s)) = ((upper h l s : Nat) : Int) := by
  have a : l / 2 ^ (64 - s) < 2 ^ s := by
    apply (Nat.div_lt_iff_lt_mul (pow_pos _)).2
    rw [← Nat.pow_add, show s + (64 - s) = 64 by omega]
    exact hl
  have b := hb
  unfold upper at *
  rw [cast_div, u64_or_nat _ _ (Nat.lt_of_le_of_lt (Nat.le_add_right _ _) b) (Nat.lt_of_le_of_lt (Nat.le_add_left _ _) b), or_add ⟨_, Nat.mul_comm _ _⟩ a]

theorem div_any {h l y : Nat} (w : World) (h0 : 0 < h) (h1 : h < y) (h2 : W64lt y) (h3 : W64lt l) :
    Calls Try.prog 69 #[.int .u64 h, .int .u64 l, .int .u64 y] w (Divides (h * 18446744073709551616 + l) y w) := by
  unfold W64lt at h2 h3
  have ⟨ls, la, lb⟩ := lead_spec (show 0 < y by omega) h2
  have hu := upper_lt ls h3 h1
  have hub := Nat.lt_trans hu lb
  have hh : h * 2 ^ lead y < 18446744073709551616 := Nat.lt_trans ((Nat.mul_lt_mul_right (pow_pos _)).2 h1) lb
  have e2 : y * 2 ^ lead y = y * 2 ^ lead y / 4294967296 * 4294967296 + y * 2 ^ lead y % 4294967296 := by omega
  have T := trial_first (u := upper h l (lead y)) (u1 := l * 2 ^ lead y % 18446744073709551616 / 4294967296) e2 (by omega) (by omega) hu (by omega)
  have eu := upper_eq (h := h) (l := l) ls
  have er := rest_down (h * 18446744073709551616 + l) y (lead y)
  refine div_core h l y (h * 18446744073709551616 + l) (y * 2 ^ lead y) (y * 2 ^ lead y / 4294967296) (y * 2 ^ lead y % 4294967296) (h * 2 ^ lead y) (upper h l (lead y)) (l * 2 ^ lead y % 18446744073709551616)
    (l * 2 ^ lead y % 18446744073709551616 / 4294967296) (l * 2 ^ lead y % 18446744073709551616 % 4294967296) (upper h l (lead y) / (y * 2 ^ lead y / 4294967296)) (upper h l (lead y) / (y * 2 ^ lead y / 4294967296) * (y * 2 ^ lead y / 4294967296)) _ w
    (bne0 (by omega)) (bne0 h0) h1 h2 (by omega) (by omega) ?_ ?_ ?_ ?_ ?_ ?_ ?_ ?_ ?_ ?_ ?_ e2 hu ?_ T (by omega) (by omega) (by omega) (by omega) (by omega) lb ?_
  · rw [cast_mul, wrap_nat, Nat.mod_eq_of_lt lb]
  · rw [Int.natCast_ediv]; rfl
  · rw [and_low32 _ (by omega) (by omega), Int.natCast_emod]; rfl
  · rw [cast_mul, wrap_nat, Nat.mod_eq_of_lt hh]
  · exact w_or_upper ls h3 hub
  · rw [cast_mul, wrap_nat]
  · rw [Int.natCast_ediv]; rfl
  · rw [and_low32 _ (by omega) (by omega), Int.natCast_emod]; rfl
  · exact wrap_quo _ _ hub
  · exact wrap_mul (Nat.lt_of_le_of_lt (trial_rest T) hub)
  · exact wrap_diff (trial_rest T) hub
  · show _ / _ = _
    rw [Nat.div_add_mod', eu, er]
  · have e := Nat.div_add_mod (upper h l (lead y)) (y * 2 ^ lead y / 4294967296)
    have r := Nat.mod_lt (upper h l (lead y)) (show 0 < y * 2 ^ lead y / 4294967296 by omega)
    rw [Nat.mul_comm] at e
    omega

set_option maxHeartbeats 400000 in
theorem div_small {l y : Nat} (w : World) (h0 : 0 < y) :
    Calls Try.prog 69 #[.int .u64 0, .int .u64 l, .int .u64 y] w fun e w' => ∃ (q : Int) (n : Nat), e = .returned (.tuple #[.int .u64 q, .int .u64 (l % y : Nat)]) ∧ w' = w.drewN n := by
  have hy := bne0 h0
  have hy2 : ¬ ((y : Int) ≤ 0) := by omega
  have hy3 : (0 : Int) < y := by omega
  go_enter Try.func69, Try.ntmps69
  go_wp2_with fail
  go_quiet (fail)
  go_wp2
  go_ret2
  exact ⟨_, _, congrArg Ending.returned (tup2 rfl (u64_eq (Int.natCast_emod l y).symm)), rfl⟩

def Gets (v : Value) (w : World) (e : Ending) (w' : World) : Prop := e = .returned v ∧ ∃ n, w' = w.drewN n
theorem div_small' {l y : Nat} (w : World) (h0 : 0 < y) :
    Calls Try.prog 69 #[.int .u64 0, .int .u64 l, .int .u64 y] w fun e w' => ∃ q : Int, Gets (.tuple #[.int .u64 q, .int .u64 (l % y : Nat)]) w e w' :=
  (div_small w h0).mono fun _ _ ⟨q, n, he, hw⟩ => ⟨q, he, n, hw⟩
theorem rem_eq (h l y : Nat) : (h % y * 18446744073709551616 + l) % y = (h * 18446744073709551616 + l) % y := by
  rw [Nat.add_mod, Nat.mod_mul_mod, ← Nat.add_mod]

set_option maxHeartbeats 400000 in
theorem rem_any {h l y : Nat} (w : World) (h0 : 0 < y) (h2 : W64lt y) (h3 : W64lt l) :
    Calls Try.prog 48 #[.int .u64 h, .int .u64 l, .int .u64 y] w (Gets (.int .u64 ((h * 18446744073709551616 + l) % y : Nat)) w) := by
  have hy := bne0 h0
  have hy3 : (0 : Int) < y := by omega
  have hr := rem_eq h l y
  have hm : (h : Int) % (y : Int) = ((h % y : Nat) : Int) := (Int.natCast_emod h y).symm
  have hl := Nat.mod_lt h h0
  generalize h % y = m at *
  have R := hide hr
  clear hr
  rcases Nat.eq_zero_or_pos m with e | e
  · subst e
    have R' : Hid (l % y = (h * 18446744073709551616 + l) % y) := by have := R.out; rw [Nat.zero_mul, Nat.zero_add] at this; exact this
    clear R
    go_enter Try.func48, Try.ntmps48
    go_wp2_with fail
    refine (div_small' _ h0).mono ?_
    rintro e w' ⟨q, rfl, n, rfl⟩
    go_wp2_with fail
    go_ret
    exact ⟨congrArg Ending.returned (u64_eq (by rw [← R'.out]; simp)), n, rfl⟩
  · go_enter Try.func48, Try.ntmps48
    go_wp2_with fail
    refine (div_any _ e hl h2 h3).mono ?_
    rintro e w' ⟨q, rfl, rfl⟩
    go_wp2_with fail
    go_ret
    exact ⟨congrArg Ending.returned (u64_eq (by rw [← R.out]; simp)), 0, rfl⟩

def modS (a b : Nat) : Nat := if b = 0 then 0 else a % b
def modO (b : Nat) : Bool := decide (b ≠ 0)
theorem modS_lt {a b : Nat} (h : b ≠ 0) : modS a b < b := by unfold modS; rw [if_neg h]; exact Nat.mod_lt _ (by omega)
theorem fits_modS {a b : Nat} (hb : Fits b) : Fits (modS a b) := by
  unfold modS; split
  · exact fits_zero
  · rename_i h; exact Nat.lt_trans (Nat.mod_lt _ (by omega)) hb

theorem gets_below {v : Value} {w : World} {e : Ending} {w' : World} (h : Gets v w e w') : Gives v w e w' := by
  obtain ⟨rfl, n, rfl⟩ := h
  exact ⟨rfl, rfl, rfl, rfl, Nat.le_refl _, fun _ _ => rfl⟩
end Go.Proofs.Ytfmhpnendcikoaa
