/-
  The contract of awake: it returns true. No condition.
-/
import Derived.Test.YtnbdldnbfhdhdaaOctC
namespace Go.Proofs.Ytnbdldnbfhdhdaa
open Go.RowKit Go.Joins

theorem via {f : FuncId} {args : Array Value} {w : World} {v v' : Value} (h : Calls Try.prog f args w (Gives v w)) (e : v = v') : Calls Try.prog f args w (Gives v' w) := e ▸ h
theorem viaS {f : FuncId} {args : Array Value} {w : World} {v v' : Value} (h : Calls Try.prog f args w (Same v w)) (e : v = v') : Calls Try.prog f args w (Same v' w) := e ▸ h
theorem k_get : Value.tuple #[.int .u16 (getV 2 ⟨#[1, 2, 3]⟩ 1 : Nat), .bool (cutO ⟨#[1, 2, 3]⟩ 1 2)] = .tuple #[.int .u16 515, .bool true] := by kernel_rfl
theorem k_run : Value.tuple #[.string (runV ⟨#[97, 98]⟩), .bool (runO ⟨#[97, 98]⟩)] = .tuple #[.string ⟨#[0, 2, 97, 98]⟩, .bool true] := by kernel_rfl
theorem k_take : Value.tuple #[.string (takeV ⟨#[9, 0, 2, 97, 98, 99]⟩ 1), .int .i64 (takeE ⟨#[9, 0, 2, 97, 98, 99]⟩ 1), .bool (takeO ⟨#[9, 0, 2, 97, 98, 99]⟩ 1)] = .tuple #[.string ⟨#[97, 98]⟩, .int .i64 5, .bool true] := by kernel_rfl
theorem k_pad : Value.tuple #[.string (padV ⟨#[97, 98]⟩ 2), .bool true] = .tuple #[.string ⟨#[97, 98, 0, 0]⟩, .bool true] := by kernel_rfl
theorem k_put16 : St (beL 2 258) = .string ⟨#[1, 2]⟩ := by kernel_rfl
theorem k_put32 : St (beL 4 1) = .string ⟨#[0, 0, 0, 1]⟩ := by kernel_rfl
set_option maxRecDepth 100000 in
set_option maxHeartbeats 1000000 in
theorem awake_any (w : World) : Calls Try.prog 8 #[] w (Gives (.bool true) w) := by
  have G := hide (fun W => viaS (get16_any ⟨#[1, 2, 3]⟩ (show 3 ≤ maxLen by unfold maxLen; omega) (a := 1) (by unfold I64; omega) W) k_get)
  have R := hide (fun W => via (run_any ⟨#[97, 98]⟩ W) k_run)
  have T := hide (fun W => viaS (takeRun_any ⟨#[9, 0, 2, 97, 98, 99]⟩ (show 6 ≤ maxLen by unfold maxLen; omega) (a := 1) (by unfold I64; omega) W) k_take)
  have P := hide (fun W => via (pad_yes ⟨#[97, 98]⟩ 2 (show 2 + 2 ≤ 2147483647 by omega) W) k_pad)
  have P2 := hide (fun W => via (put16_any 258 (by omega) W) k_put16)
  have P4 := hide (fun W => via (put32_any 1 (by omega) W) k_put32)
  go_enter Try.func8, Try.ntmps8
  go_wp2_with fail
  refine (G.out _).mono ?_
  rintro e w' ⟨rfl, rfl⟩
  go_wp2_with fail
  refine (R.out _).mono ?_
  rintro e w1 ⟨rfl, hb1⟩
  go_wp2_with fail
  refine (T.out _).mono ?_
  rintro e w' ⟨rfl, rfl⟩
  go_wp2_with fail
  refine (P.out _).mono ?_
  rintro e w2 ⟨rfl, hb2⟩
  have HB2 := chain hb1 hb2
  clear hb1 hb2
  go_wp2_with fail
  refine (P2.out _).mono ?_
  rintro e w3 ⟨rfl, hb3⟩
  have HB3 := chain HB2 hb3
  clear HB2 hb3
  go_wp2_with fail
  refine (P4.out _).mono ?_
  rintro e w4 ⟨rfl, hb4⟩
  have HB4 := chain HB3 hb4
  clear HB3 hb4
  go_wp2
  go_ret
  exact ⟨rfl, HB4⟩
end Go.Proofs.Ytnbdldnbfhdhdaa
