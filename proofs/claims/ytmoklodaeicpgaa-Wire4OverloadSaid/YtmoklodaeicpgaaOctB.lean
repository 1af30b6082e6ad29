/-
  Basics of the walks over octet: what a call gives, memory kept over calls; contracts of Len64, size, Cut. Conditions: a word is a word of 64 bits; a string is no longer than an int; an int is an int of 64 bits (every value of the types is such).
-/
import Derived.Test.YtmoklodaeicpgaaProg
import Derived.Test.YtmoklodaeicpgaaOctM
import Derived.WalkKit
import Derived.WalkSpells
import Derived.WalkLawsBesides
import Derived.Laws.Externs
import Derived.RegionTactic
import Derived.ChangeAlike
import Derived.Lib.Strings
import Derived.Lib.Slices
import Derived.Lib.Small
import Derived.Lib.Walk
import Derived.Lib.BitFns
import Derived.Lib.SmallJoins
import Derived.ProofKit
import Derived.BigQuiet
import Derived.Deep.QuietTactic
import Derived.Laws.CopyOwn
import Derived.Laws.IdiomStrings
namespace Go.Proofs.Ytmoklodaeicpgaa
open Go.RowKit Go.Joins

abbrev A (a : Nat) : Value := .agg #[.int .u64 (hi a : Nat), .int .u64 (lo a : Nat)]
theorem tab_at (i : Int) (h0 : 0 ≤ i) (h1 : i ≤ 255) (W : World) : (Instr.index 9 (.string Lib.len8tab) (.int .u8 i)).run Try.prog W = .ok (.int .u8 (Lib.len8 i)) W :=
  Lib.run_index_len8tab W _ _ i Try.underlying9 h0 h1

theorem len_close {x i K : Int} (k : Nat) (hK : K = (k : Int)) (hk : 2 ^ k ≤ x.toNat) (hx : x.toNat < 2 ^ 64) (hi' : i.toNat = x.toNat / 2 ^ k) (h0 : 0 ≤ i) (h1 : i ≤ 255) (h2 : k ≤ 64) :
    wrap64 (K + wrap64 (Lib.len8 i)) = (Lib.bitLen x.toNat : Int) := by
  have e := Lib.bitLen_shift k x.toNat hk hx
  have l := Lib.bitLen_le8' i h0 h1
  rw [Lib.len8_of i h0 h1, hK, e, ← hi']
  rw [IntWalk.wrap64_in (Lib.bitLen i.toNat : Int) ⟨by omega, by omega⟩, IntWalk.wrap64_in _ ⟨by omega, by omega⟩]
  omega
theorem len_close0 {x : Int} (h0 : 0 ≤ x) (h1 : x ≤ 255) : wrap64 (wrap64 (Lib.len8 x)) = (Lib.bitLen x.toNat : Int) := by
  have l := Lib.bitLen_le8' x h0 h1
  rw [Lib.len8_of x h0 h1]
  rw [IntWalk.wrap64_in (Lib.bitLen x.toNat : Int) ⟨by omega, by omega⟩, IntWalk.wrap64_in _ ⟨by omega, by omega⟩]

set_option maxHeartbeats 4000000 in
set_option maxRecDepth 100000 in
theorem len64_any (x : Int) (w : World) (h0 : 0 ≤ x) (h1 : x ≤ 18446744073709551615) :
    Calls Try.prog 85 #[.int .u64 x] w fun e w' => e = .returned (.int .i64 (Lib.bitLen x.toNat)) ∧ w = w' := by
  have f0 := fun W (h : x < 256) => tab_at x h0 (by omega) W
  have f1 := fun W (h : x < 65536) => tab_at (x / 256) (by omega) (by omega) W
  have f2 := fun W (h : x / 65536 < 256) => tab_at (x / 65536) (by omega) (by omega) W
  have f3 := fun W (h : x < 4294967296) => tab_at (x / 65536 / 256) (by omega) (by omega) W
  have f4 := fun W (h : x / 4294967296 < 256) => tab_at (x / 4294967296) (by omega) (by omega) W
  have f5 := fun W (h : x / 4294967296 < 65536) => tab_at (x / 4294967296 / 256) (by omega) (by omega) W
  have f6 := fun W (h : x / 4294967296 / 65536 < 256) => tab_at (x / 4294967296 / 65536) (by omega) (by omega) W
  have f7 := tab_at (x / 4294967296 / 65536 / 256) (by omega) (by omega)
  go_enter Try.func85, Try.ntmps85
  go_wp2
  all_goals (go_ret; refine ⟨congrArg Ending.returned (congrArg (Value.int IntKind.i64) ?_), rfl⟩)
  all_goals clear f0 f1 f2 f3 f4 f5 f6 f7
  · exact len_close 56 rfl (by omega) (by omega) (by omega) (by omega) (by omega) (by omega)
  · exact len_close 48 rfl (by omega) (by omega) (by omega) (by omega) (by omega) (by omega)
  · exact len_close 40 rfl (by omega) (by omega) (by omega) (by omega) (by omega) (by omega)
  · exact len_close 32 rfl (by omega) (by omega) (by omega) (by omega) (by omega) (by omega)
  · exact len_close 24 rfl (by omega) (by omega) (by omega) (by omega) (by omega) (by omega)
  · exact len_close 16 rfl (by omega) (by omega) (by omega) (by omega) (by omega) (by omega)
  · exact len_close 8 rfl (by omega) (by omega) (by omega) (by omega) (by omega) (by omega)
  · exact len_close0 (by omega) (by omega)



theorem bitLen16 : Lib.bitLen (65535 : Int).toNat = 16 := by decide +kernel
set_option maxRecDepth 100000 in
theorem size16_any (w : World) : Calls Try.prog 74 #[] w (Same (.int .i64 2) w) := by
  have L := hide (len64_any 65535 w (by omega) (by omega))
  rw [bitLen16] at L
  go_enter Try.func74, Try.ntmps74
  go_wp2_with fail
  refine L.out.mono ?_
  rintro e w' ⟨rfl, rfl⟩
  go_wp2
  go_ret
  exact ⟨rfl, rfl⟩

theorem bitLen32 : Lib.bitLen (4294967295 : Int).toNat = 32 := by decide +kernel
set_option maxRecDepth 100000 in
theorem size32_any (w : World) : Calls Try.prog 75 #[] w (Same (.int .i64 4) w) := by
  have L := hide (len64_any 4294967295 w (by omega) (by omega))
  rw [bitLen32] at L
  go_enter Try.func75, Try.ntmps75
  go_wp2_with fail
  refine L.out.mono ?_
  rintro e w' ⟨rfl, rfl⟩
  go_wp2
  go_ret
  exact ⟨rfl, rfl⟩

theorem bitLen64 : Lib.bitLen (18446744073709551615 : Int).toNat = 64 := by decide +kernel
end Go.Proofs.Ytmoklodaeicpgaa
