/-
  The plain laws of addresses that the statement AddrGroup needs, and the walk of awake: it returns true. No condition.
-/
import Derived.Test.YtlbconflbaohfaaAddrE
import Derived.Test.YtlbconflbaohfaaAddrU
namespace Go.Proofs.Ytlbconflbaohfaa
open Go.RowKit

theorem chain {w v v' : World} (h : Below w.heap.size w v) (k : Below v.heap.size v v') : Below w.heap.size w v' := h.trans (k.mono h.size)
theorem chainA {w v v' : World} {o : Obj} (h : Below w.heap.size w v) (k : Below (v.alloc o).heap.size (v.alloc o) v') : Below w.heap.size w v' := chain (h.alloc h.size o) k
theorem chainD {w v v' : World} (h : Below w.heap.size w v) (k : Below v.drew.heap.size v.drew v') : Below w.heap.size w v' := chain h.drew k
theorem lit_eq {h l : Int} {n : Nat} (h1 : h = (hi n : Nat)) (h2 : l = (lo n : Nat)) : Value.agg #[.int .u64 h, .int .u64 l] = A n := by rw [h1, h2]
theorem fits_lit {n : Nat} (h : n < 340282366920938463463374607431768211456) : Fits n := h
theorem aw_add (w : World) : Calls Try.prog 11 #[.agg #[.int .u64 0, .int .u64 18446744073709551615], .agg #[.int .u64 0, .int .u64 1]] w (Gives (.tuple #[.agg #[.int .u64 1, .int .u64 0], .bool false]) w) := by
  rw [lit_eq (h := 0) (l := 18446744073709551615) (n := 18446744073709551615) rfl rfl, lit_eq (h := 0) (l := 1) (n := 1) rfl rfl]
  refine (add_any (fits_lit (by decide)) (fits_lit (by decide)) w).mono ?_
  rintro e w' ⟨rfl, h⟩
  exact ⟨by rfl, h⟩
theorem aw_mod (w : World) : Calls Try.prog 15 #[.agg #[.int .u64 1, .int .u64 0], .agg #[.int .u64 0, .int .u64 7]] w (Gives (.tuple #[.agg #[.int .u64 0, .int .u64 2], .bool true]) w) := by
  rw [lit_eq (h := 1) (l := 0) (n := 18446744073709551616) rfl rfl, lit_eq (h := 0) (l := 7) (n := 7) rfl rfl]
  refine (mod_any (fits_lit (by decide)) (fits_lit (by decide)) w).mono ?_
  rintro e w' ⟨rfl, h⟩
  exact ⟨by rfl, h⟩
theorem aw_clip (w : World) : Calls Try.prog 27 #[.agg #[.int .u64 0, .int .u64 3232235781], .int .i64 120] w (Gives (.tuple #[.agg #[.int .u64 0, .int .u64 3232235776, .int .i64 120], .bool true]) w) := by
  rw [lit_eq (h := 0) (l := 3232235781) (n := 3232235781) rfl rfl]
  refine (clip_any (fits_lit (by decide)) 120 w).mono ?_
  rintro e w' ⟨rfl, h⟩
  exact ⟨by rfl, h⟩
theorem lit3 {h l b : Int} {n : Nat} (h1 : h = (hi n : Nat)) (h2 : l = (lo n : Nat)) : Value.agg #[.int .u64 h, .int .u64 l, .int .i64 b] = Pv n b := by rw [h1, h2]
theorem aw_sound (w : World) : Calls Try.prog 29 #[.agg #[.int .u64 0, .int .u64 3232235776, .int .i64 120]] w (Gives (.bool true) w) := by
  rw [lit3 (h := 0) (l := 3232235776) (n := 3232235776) rfl rfl]
  refine (sound_any (fits_lit (by decide)) 120 w).mono ?_
  rintro e w' ⟨rfl, h⟩
  exact ⟨by rfl, h⟩
theorem aw_has (w : World) : Calls Try.prog 35 #[.agg #[.int .u64 0, .int .u64 3232235776, .int .i64 120], .agg #[.int .u64 0, .int .u64 3232236031]] w (Gives (.bool true) w) := by
  rw [lit3 (h := 0) (l := 3232235776) (n := 3232235776) rfl rfl, lit_eq (h := 0) (l := 3232236031) (n := 3232236031) rfl rfl]
  refine (has_any (fits_lit (by decide)) 120 w).mono ?_
  rintro e w' ⟨rfl, h⟩
  exact ⟨by rfl, h⟩
theorem aw_up (w : World) : Calls Try.prog 21 #[.agg #[.int .u64 0, .int .u64 1], .int .i64 64] w (Gives (.agg #[.int .u64 1, .int .u64 0]) w) := by
  rw [lit_eq (h := 0) (l := 1) (n := 1) rfl rfl]
  refine (up_any (fits_lit (by decide)) 64 (by unfold I63; omega) w).mono ?_
  rintro e w' ⟨rfl, h⟩
  exact ⟨by rfl, h⟩
theorem aw_down (w : World) : Calls Try.prog 23 #[.agg #[.int .u64 1, .int .u64 0], .int .i64 1] w (Gives (.agg #[.int .u64 0, .int .u64 9223372036854775808]) w) := by
  rw [lit_eq (h := 1) (l := 0) (n := 18446744073709551616) rfl rfl]
  refine (down_any (fits_lit (by decide)) 1 (by unfold I63; omega) w).mono ?_
  rintro e w' ⟨rfl, h⟩
  exact ⟨by rfl, h⟩
theorem aw_cmp (w : World) : Calls Try.prog 19 #[.agg #[.int .u64 1, .int .u64 0], .agg #[.int .u64 0, .int .u64 2]] w (Gives (.int .i64 1) w) := by
  rw [lit_eq (h := 1) (l := 0) (n := 18446744073709551616) rfl rfl, lit_eq (h := 0) (l := 2) (n := 2) rfl rfl]
  refine (cmp_any _ _ w).mono ?_
  rintro e w' ⟨rfl, h⟩
  exact ⟨by rfl, h⟩

set_option maxRecDepth 100000 in
set_option maxHeartbeats 2000000 in
theorem awake_any (w : World) : Calls Try.prog 10 #[] w (Gives (.bool true) w) := by
  go_enter Try.func10, Try.ntmps10
  go_wp2_with fail
  refine (aw_add _).mono ?_
  rintro e w1 ⟨rfl, hb1⟩
  obtain ⟨hc1, hf1⟩ := bcell hb1
  have hs1 := hb1.size
  (try simp at hs1)
  go_wp2_with fail
  refine (aw_mod _).mono ?_
  rintro e w2 ⟨rfl, hb2⟩
  obtain ⟨hc2, hf2⟩ := bcell hb2
  have hs2 := hb2.size
  (try simp at hs2)
  have z2x0 : w1.heap.size < w2.heap.size := by omega
  go_wp2_with fail
  refine (aw_clip _).mono ?_
  rintro e w3 ⟨rfl, hb3⟩
  obtain ⟨hc3, hf3⟩ := bcell hb3
  have hs3 := hb3.size
  (try simp at hs3)
  have z3x0 : w1.heap.size < w3.heap.size := by omega
  have z3x1 : w2.heap.size < w3.heap.size := by omega
  go_wp2_with fail
  refine (aw_sound _).mono ?_
  rintro e w4 ⟨rfl, hb4⟩
  obtain ⟨hc4, hf4⟩ := bcell hb4
  have hs4 := hb4.size
  (try simp at hs4)
  have z4x0 : w1.heap.size < w4.heap.size := by omega
  have z4x1 : w2.heap.size < w4.heap.size := by omega
  have z4x2 : w3.heap.size < w4.heap.size := by omega
  go_wp2_with fail
  refine (aw_has _).mono ?_
  rintro e w5 ⟨rfl, hb5⟩
  obtain ⟨hc5, hf5⟩ := bcell hb5
  have hs5 := hb5.size
  (try simp at hs5)
  have z5x0 : w1.heap.size < w5.heap.size := by omega
  have z5x1 : w2.heap.size < w5.heap.size := by omega
  have z5x2 : w3.heap.size < w5.heap.size := by omega
  go_wp2_with fail
  refine (aw_up _).mono ?_
  rintro e w6 ⟨rfl, hb6⟩
  obtain ⟨hc6, hf6⟩ := bcell hb6
  have hs6 := hb6.size
  (try simp at hs6)
  have z6x0 : w1.heap.size < w6.heap.size := by omega
  have z6x1 : w2.heap.size < w6.heap.size := by omega
  have z6x2 : w3.heap.size < w6.heap.size := by omega
  go_wp2_with fail
  refine (aw_down _).mono ?_
  rintro e w7 ⟨rfl, hb7⟩
  obtain ⟨hc7, hf7⟩ := bcell hb7
  have hs7 := hb7.size
  (try simp at hs7)
  have z7x0 : w1.heap.size < w7.heap.size := by omega
  have z7x1 : w2.heap.size < w7.heap.size := by omega
  have z7x2 : w3.heap.size < w7.heap.size := by omega
  go_wp2_with fail
  refine (aw_cmp _).mono ?_
  rintro e w8 ⟨rfl, hb8⟩
  obtain ⟨hc8, hf8⟩ := bcell hb8
  have hs8 := hb8.size
  (try simp at hs8)
  have z8x0 : w1.heap.size < w8.heap.size := by omega
  have z8x1 : w2.heap.size < w8.heap.size := by omega
  have z8x2 : w3.heap.size < w8.heap.size := by omega
  go_wp2_with fail
  go_ret
  exact ⟨rfl, (chain (chain (chain (chain (chainA (chainA (chainA hb1 hb2) hb3) hb4) hb5) hb6) hb7) hb8)⟩
end Go.Proofs.Ytlbconflbaohfaa
