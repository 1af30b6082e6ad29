/-
  The law Opt6Reads: identity associations are read as the document says. Condition: a string is no longer than an int.
-/
import Derived.Test.YtcpldojgmboipaaSrG
import Derived.Test.YtcpldojgmboipaaSxA
namespace Go.Proofs.Ytcpldojgmboipaa
open Go.RowKit Go.Joins

theorem get_len (o : Opt) : (getV6 o).has.length ≤ 8 := by
  unfold getV6
  cases h : readA o with
  | error y => exact Nat.zero_le _
  | ok a => exact (soundA_iff.1 (readA_ok h).2.1).2.1
set_option maxRecDepth 100000 in
set_option maxHeartbeats 4000000 in
theorem reads_any (o : Opt) (hs : o.2.size ≤ maxLen) (w : World) : Calls Try.prog 5 #[OV o] w (Gives (.bool true) w) := by
  have D0 := hide (below_alloc w (.cells #[.int .u16 (o.1.toNat : Int), .string o.2] 40))
  have X0 := hide (bx_new w 40 #[.int .u16 (o.1.toNat : Int), .string o.2])
  have AW := hide (fun W => awake_any W)
  have PA := hide (fun W => getIA_any o hs W)
  have PB := hide (fun W => rgetIA_any o hs W)
  have IY := hide (fun (va vb : Value) W (ha : LstI va (getV6 o).has W) (hb : LstI vb (getV6 o).has W) => ias_yes (getV6 o) (by have := get_len o; omega) W ha hb)
  unfold GetP at PA PB
  generalize getV6 o = a at *
  generalize getE o = ge at *
  clear hs
  go_enter Try.func5, Try.ntmps5
  go_wp2_with fail
  refine (AW.out _).mono ?_
  rintro e w1 ⟨rfl, hb1⟩
  have D1 := hide (chain D0.out hb1)
  have X1 := X0.out.step hb1
  have x0 := X1.cell 0
  have x1 := X1.cell 1
  simp at x0 x1
  clear hb1 D0 AW X0
  go_wp2_with fail
  refine (PA.out _).mono ?_
  rintro e w2 ⟨va, rfl, O2, hb2⟩
  obtain ⟨p, c, rfl⟩ := lstI_len (ownI_lst O2)
  have B3 := below_alloc w2 (.cells (cellsA a (.slice p a.has.length c)) 37)
  have D3 := hide (chain (chain D1.out hb2) B3)
  have L3 := hide ((ownI_lst O2).step B3)
  have Y3 := hide (bx_new w2 37 (cellsA a (.slice p a.has.length c)))
  have X3 := (X1.step hb2).step B3
  clear hb2 D1 X1 x0 x1 PA O2 B3
  go_upto_region 4 with fail
  generalize w2.alloc (.cells (cellsA a (.slice p a.has.length c)) 37) = w3 at *
  generalize w2.heap.size = b3 at *
  have x0 := X3.cell 0
  have x1 := X3.cell 1
  simp at x0 x1
  go_wp2_with fail
  refine (PB.out _).mono ?_
  rintro e w4 ⟨vb, rfl, O4, hb4⟩
  obtain ⟨q, d, rfl⟩ := lstI_len (ownI_lst O4)
  have B5 := below_alloc w4 (.cells (cellsA a (.slice q a.has.length d)) 37)
  have D5 := hide (chain (chain D3.out hb4) B5)
  have M5 := hide ((ownI_lst O4).step B5)
  have L5 := hide ((L3.out.step hb4).step B5)
  have Z5 := bx_new w4 37 (cellsA a (.slice q a.has.length d))
  have Y5 := (Y3.out.step hb4).step B5
  clear hb4 D3 X3 x0 x1 PB O4 B5 L3 Y3
  go_upto_region 5 with fail
  generalize w4.alloc (.cells (cellsA a (.slice q a.has.length d)) 37) = w5 at *
  generalize w4.heap.size = b5 at *
  obtain ⟨y0, y1, y2, y3, y4, y5⟩ := ia_cells Y5
  obtain ⟨z0, z1, z2, z3, z4, z5⟩ := ia_cells Z5
  clear Y5 Z5
  go_wp2_with fail
  refine (IY.out _ _ _ L5.out M5.out).mono ?_
  rintro e w6 ⟨rfl, hb6⟩
  have D6 := hide (chain D5.out hb6)
  go_wp2
  go_ret
  exact ⟨rfl, D6.out⟩
end Go.Proofs.Ytcpldojgmboipaa
