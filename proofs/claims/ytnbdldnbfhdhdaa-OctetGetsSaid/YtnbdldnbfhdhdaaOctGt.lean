/-
  The walk of OctetGets: it returns true. Conditions: a string is no longer than an int; an int is an int of 64 bits.
-/
import Derived.Test.YtnbdldnbfhdhdaaOctR
import Derived.Test.YtnbdldnbfhdhdaaOctBm
namespace Go.Proofs.Ytnbdldnbfhdhdaa
open Go.RowKit Go.Joins

set_option maxRecDepth 100000 in
set_option maxHeartbeats 1000000 in
theorem gets_any (s : ByteArray) (hs : s.size ≤ maxLen) {a n : Int} (ha : I64 a) (hn : I64 n) (w : World) :
    Calls Try.prog 4 #[.string s, .int .i64 a, .int .i64 n] w (Gives (.bool true) w) := by
  have A2 := hide (fun W => get16_any s hs ha W)
  have B2 := hide (fun W => get16_ref s hs ha W)
  have A4 := hide (fun W => get32_any s hs ha W)
  have B4 := hide (fun W => get32_ref s hs ha W)
  have A8 := hide (fun W => get64_any s hs ha W)
  have B8 := hide (fun W => get64_ref s hs ha W)
  have AA := hide (fun W => getAddr_any s hs ha W)
  have BA := hide (fun W => getAddr_ref s hs ha W)
  have AC := hide (fun W => cut_any s hs ha hn W)
  have BC := hide (fun W => cut_ref s hs ha hn W)
  have AT := hide (fun W => takeRun_any s hs ha W)
  have BT := hide (fun W => takeRun_ref s hs ha W)
  generalize getV 2 s a = v2 at *
  generalize getV 4 s a = v4 at *
  generalize getV 8 s a = v8 at *
  generalize getA s a = va at *
  generalize cutV s a n = vc at *
  generalize cutO s a n = oc at *
  generalize cutO s a 2 = o2 at *
  generalize cutO s a 4 = o4 at *
  generalize cutO s a 8 = o8 at *
  generalize cutO s a 16 = o16 at *
  generalize takeV s a = tv at *
  generalize takeE s a = te at *
  generalize takeO s a = tok at *
  clear ha hn hs
  go_enter Try.func4, Try.ntmps4
  go_wp2_with fail
  refine (awake_any _).mono ?_
  rintro e w1 ⟨rfl, hb1⟩
  go_wp2_with fail
  with_reducible refine (A2.out _).mono ?_
  rintro e w' ⟨rfl, rfl⟩
  go_wp2_with fail
  with_reducible refine (B2.out _).mono ?_
  rintro e w' ⟨rfl, rfl⟩
  go_wp2_with fail
  with_reducible refine (A4.out _).mono ?_
  rintro e w' ⟨rfl, rfl⟩
  go_wp2_with fail
  with_reducible refine (B4.out _).mono ?_
  rintro e w' ⟨rfl, rfl⟩
  go_wp2_with fail
  with_reducible refine (A8.out _).mono ?_
  rintro e w' ⟨rfl, rfl⟩
  go_wp2_with fail
  with_reducible refine (B8.out _).mono ?_
  rintro e w' ⟨rfl, rfl⟩
  go_wp2_with fail
  with_reducible refine (AA.out _).mono ?_
  rintro e w2 ⟨rfl, hb2⟩
  have HB2 := chain hb1 hb2
  have X2 := bx_new w2 va 24
  clear hb1 hb2
  go_wp2_with fail
  with_reducible refine (BA.out _).mono ?_
  rintro e w3 ⟨rfl, hb3⟩
  have HB3 := chain (chain HB2 (below_alloc w2 _)) hb3
  have X3 := X2.step hb3
  have Z3 : w2.heap.size < w3.heap.size := by have := hb3.size; simp at this; omega
  clear X2 HB2 hb3
  obtain ⟨x0, x1⟩ := id X3
  have HB4 := chain HB3 (below_alloc w3 (.cells #[.int .u64 (hi va : Nat), .int .u64 (lo va : Nat)] 24))
  clear HB3
  go_wp2_with fail
  with_reducible refine (AC.out _).mono ?_
  rintro e w' ⟨rfl, hw⟩
  rw [hw] at HB4
  clear x0 x1 X3 Z3 hw
  go_wp2_with fail
  with_reducible refine (BC.out _).mono ?_
  rintro e w' ⟨rfl, rfl⟩
  go_wp2_with fail
  with_reducible refine (AT.out _).mono ?_
  rintro e w' ⟨rfl, rfl⟩
  go_wp2_with fail
  with_reducible refine (BT.out _).mono ?_
  rintro e w' ⟨rfl, rfl⟩
  go_wp2
  go_ret
  exact ⟨rfl, HB4⟩
end Go.Proofs.Ytnbdldnbfhdhdaa
