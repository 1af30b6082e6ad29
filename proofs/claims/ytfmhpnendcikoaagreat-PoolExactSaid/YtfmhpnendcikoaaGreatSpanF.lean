/-
  Contracts of the document's own small calls of tenancyref03: le, next, ahead, size. Condition: the words are words of 64 bits.
-/
import Derived.Test.YtfmhpnendcikoaaGreatSpanRc
import Derived.Test.YtfmhpnendcikoaaGreatSpanRa
import Derived.Test.YtfmhpnendcikoaaGreatSpanRs
import Derived.Test.YtfmhpnendcikoaaGreatSpanT
namespace Go.Proofs.YtfmhpnendcikoaaGreat
open Go.RowKit Go.Joins

set_option maxHeartbeats 400000 in
theorem rle_any {a b : Nat} (ha : Fits a) (hb : Fits b) (w : World) :
    Calls Tryz.prog 39 #[A a, A b] w (Gives (.bool (decide (a ≤ b))) w) := by
  have C := hide (fun W => rcmp_any ha hb W)
  have L := hide (cmp_le a b)
  have B0 := chain (below_alloc w (.cells #[.int .u64 (hi a : Nat), .int .u64 (lo a : Nat)] 31)) (below_alloc _ (.cells #[.int .u64 (hi b : Nat), .int .u64 (lo b : Nat)] 31))
  go_enter Tryz.func39, Tryz.ntmps39
  go_wp2_with fail
  refine (C.out _).mono ?_
  rintro e w1 ⟨rfl, hb1⟩
  go_wp2
  go_ret
  exact ⟨by rw [← L.out]; rfl, chain B0 hb1⟩
theorem fits_1 : Fits 1 := by unfold Fits; omega

set_option maxHeartbeats 400000 in
theorem rnext_any {a : Nat} (ha : Fits a) (w : World) :
    Calls Tryz.prog 45 #[A a] w (Gives (.tuple #[A (addS a 1), .bool (!addO a 1)]) w) := by
  have C := hide (fun W => radd_any ha fits_1 W)
  rw [← A_one] at C
  have T0 := two_zero (w.alloc (.cells #[.int .u64 (hi a : Nat), .int .u64 (lo a : Nat)] 31)) 31
  have B0 := chain (below_alloc w (.cells #[.int .u64 (hi a : Nat), .int .u64 (lo a : Nat)] 31)) (below_alloc _ (.cells #[.int .u64 0, .int .u64 0] 31))
  rw [World.size_alloc] at T0
  generalize addS a 1 = n at *
  generalize addO a 1 = o at *
  go_enter Tryz.func45, Tryz.ntmps45
  go_wp2_with fail
  refine (C.out _).mono ?_
  rintro e w1 ⟨rfl, hb1⟩
  have T := T0.step hb1
  have HB := chain B0 hb1
  obtain ⟨t0, t1, t2, t3, t4⟩ := T
  clear hb1 T0 B0
  go_wp2
  refine bodyPost_ret (v := .tuple #[A n, .bool (!o)]) (by simp [results, Tryz.results45, go_sem, t0, t1, t2]) rfl ⟨rfl, ?_⟩
  have hzB := HB.size
  repeat' (first | (with_reducible exact HB) | (with_reducible apply Below.drew) | (with_reducible apply Below.alloc) | (with_reducible apply Below.setCell))
  all_goals first | omega | (dsimp only; omega) | ((try simp); omega)

set_option maxHeartbeats 400000 in
theorem rahead_any {a : Nat} (ha : Fits a) (w : World) :
    Calls Tryz.prog 60 #[A a] w (Gives (.tuple #[A (subS a 1), .bool (!subO a 1)]) w) := by
  have C := hide (fun W => rsub_any ha fits_1 W)
  rw [← A_one] at C
  have T0 := two_zero (w.alloc (.cells #[.int .u64 (hi a : Nat), .int .u64 (lo a : Nat)] 31)) 31
  have B0 := chain (below_alloc w (.cells #[.int .u64 (hi a : Nat), .int .u64 (lo a : Nat)] 31)) (below_alloc _ (.cells #[.int .u64 0, .int .u64 0] 31))
  rw [World.size_alloc] at T0
  generalize subS a 1 = n at *
  generalize subO a 1 = o at *
  go_enter Tryz.func60, Tryz.ntmps60
  go_wp2_with fail
  refine (C.out _).mono ?_
  rintro e w1 ⟨rfl, hb1⟩
  have T := T0.step hb1
  have HB := chain B0 hb1
  obtain ⟨t0, t1, t2, t3, t4⟩ := T
  clear hb1 T0 B0
  go_wp2
  refine bodyPost_ret (v := .tuple #[A n, .bool (!o)]) (by simp [results, Tryz.results60, go_sem, t0, t1, t2]) rfl ⟨rfl, ?_⟩
  have hzB := HB.size
  repeat' (first | (with_reducible exact HB) | (with_reducible apply Below.drew) | (with_reducible apply Below.alloc) | (with_reducible apply Below.setCell))
  all_goals first | omega | (dsimp only; omega) | ((try simp); omega)

set_option maxHeartbeats 400000 in
theorem rsize_any {x : Rg} (hx : FitR x) (w : World) :
    Calls Tryz.prog 54 #[RV x] w (Gives (A (sizeR x)) w) := by
  have C := hide (fun W => rsub_any hx.2 hx.1 W)
  have N := hide (fun W => rnext_any (fits_subS x.2 x.1) W)
  have R := hide (show sizeR x = addS (subS x.2 x.1) 1 from rfl)
  rw [← R.out] at N
  generalize sizeR x = z at *
  generalize subS x.2 x.1 = d at *
  have T0 := two_zero (w.alloc (.cells #[.int .u64 (hi x.1 : Nat), .int .u64 (lo x.1 : Nat), .int .u64 (hi x.2 : Nat), .int .u64 (lo x.2 : Nat)] 36)) 31
  have B0 := chain (below_alloc w (.cells #[.int .u64 (hi x.1 : Nat), .int .u64 (lo x.1 : Nat), .int .u64 (hi x.2 : Nat), .int .u64 (lo x.2 : Nat)] 36)) (below_alloc _ (.cells #[.int .u64 0, .int .u64 0] 31))
  rw [World.size_alloc] at T0
  go_enter Tryz.func54, Tryz.ntmps54
  go_wp2_with fail
  refine (C.out _).mono ?_
  rintro e w1 ⟨rfl, hb1⟩
  have T1 := T0.step hb1
  have HB := chain B0 hb1
  clear hb1 T0 B0
  go_wp2_with fail
  have U := two_new w1 d 31
  have BA := below_alloc w1 (.cells #[.int .u64 (hi d : Nat), .int .u64 (lo d : Nat)] 31)
  have T2 := T1.step BA
  have HB2 := chain HB BA
  generalize w1.alloc (.cells #[.int .u64 (hi d : Nat), .int .u64 (lo d : Nat)] 31) = w2 at *
  generalize hgg : w1.heap.size = g at *
  have gw : w.heap.size + 1 < g := by rw [← hgg]; exact T1.1
  clear T1 HB BA hgg
  refine (N.out _).mono ?_
  rintro e w3 ⟨rfl, hb3⟩
  have U3 := U.step hb3
  have T3 := T2.step hb3
  have HB3 := chain HB2 hb3
  clear U T2 HB2 hb3
  obtain ⟨t0, t1, t2, t3, t4⟩ := T3
  obtain ⟨u0, u1, u2, u3, u4⟩ := U3
  go_wp2
  refine bodyPost_ret (v := A z) (by simp [results, Tryz.results54, go_sem, t1, t2]) rfl ⟨rfl, ?_⟩
  have hzB := HB3.size
  repeat' (first | (with_reducible exact HB3) | (with_reducible apply Below.drew) | (with_reducible apply Below.alloc) | (with_reducible apply Below.setCell))
  all_goals first | omega | (dsimp only; omega) | ((try simp); omega)
end Go.Proofs.YtfmhpnendcikoaaGreat
