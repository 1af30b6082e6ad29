/-
  The law Opt6Lists: options and statuses are read and written as the document says. Conditions: a row takes at most 2^47 bytes; a string is no longer than an int.
-/
import Derived.Test.YtcpldojgmboipaaSrB
import Derived.Test.YtcpldojgmboipaaSxA
namespace Go.Proofs.Ytcpldojgmboipaa
open Go.RowKit Go.Joins

theorem parL_len (s : ByteArray) : (parL s).length ≤ 128 := by
  unfold parL
  cases h : parseK 0 (lb s) with
  | error e => exact Nat.zero_le _
  | ok l => exact (parse_ok h).2.2
set_option maxRecDepth 100000 in
set_option maxHeartbeats 4000000 in
theorem lists_any (s : ByteArray) (hs : s.size ≤ maxLen) (l : List Opt) {v : Value} (hl : l.length * 24 ≤ 140737488355328) (c : Int) (w : World) (hv : LstO v l w) :
    Calls Try.prog 3 #[.string s, v, .int .i64 c] w (Gives (.bool true) w) := by
  have HV := hide (fun W (H : Below w.heap.size w W) => hv.step H)
  have AW := hide (fun W => awake_any W)
  obtain ⟨pv, cv, rfl⟩ := lstO_len hv
  have PA := hide (fun W => parse_any hs W)
  have PB := hide (fun W => rparse_any hs W)
  have EA := hide (fun W (H : Below w.heap.size w W) => emit_any (by omega) W (HV.out W H))
  have EB := hide (fun W (H : Below w.heap.size w W) => remit_any (by omega) W (HV.out W H))
  have GA := hide (fun W => getStatus_any hs W)
  have GB := hide (fun W => rgetStatus_any hs W)
  have SA := hide (fun W => putStatus_any c W)
  have SB := hide (fun W => rputStatus_any c W)
  have SM := hide (fun (va vb : Value) W (ha : LstO va (parL s) W) (hb : LstO vb (parL s) W) => same_yes (by have := parL_len s; omega) W ha hb)
  unfold ParseP at PA PB
  unfold EmitP at EA EB
  generalize parL s = pl at *
  generalize parE s = pe at *
  generalize emS l = es at *
  generalize emE l = ee at *
  generalize getC s = gc at *
  generalize getK s = gk at *
  generalize statV c = sv at *
  have D0 := hide (Below.refl w.heap.size w)
  clear hv hs HV
  go_enter Try.func3, Try.ntmps3
  go_wp2_with fail
  refine (AW.out _).mono ?_
  rintro e w1 ⟨rfl, hb1⟩
  have D1 := hide hb1
  clear hb1 D0 AW
  by_cases h300 : 300 < l.length
  · have P1 : (300 : Int) < (l.length : Int) := by omega
    go_wp2
    go_ret
    exact ⟨rfl, D1.out⟩
  have P1 : ¬ (300 : Int) < (l.length : Int) := by omega
  go_wp2_with fail
  refine (PA.out _).mono ?_
  rintro e w2 ⟨va, rfl, O2, hb2⟩
  have D2 := hide (chain D1.out hb2)
  have L2 := hide (ownO_lst O2)
  clear hb2 D1 O2 PA
  go_wp2_with fail
  refine (PB.out _).mono ?_
  rintro e w3 ⟨vb, rfl, O3, hb3⟩
  have D3 := hide (chain D2.out hb3)
  have L3 := hide (ownO_lst O3)
  have L4 := hide (L2.out.step hb3)
  clear hb3 D2 O3 PB L2
  go_wp2_with fail
  refine (SM.out _ _ _ L4.out L3.out).mono ?_
  rintro e w4 ⟨rfl, hb4⟩
  have D4 := hide (chain D3.out hb4)
  clear hb4 D3 L3 L4 SM
  go_wp2_with fail
  refine (EA.out _ D4.out).mono ?_
  rintro e w5 ⟨rfl, hb5⟩
  have D5 := hide (chain D4.out hb5)
  clear hb5 D4 EA
  go_wp2_with fail
  refine (EB.out _ D5.out).mono ?_
  rintro e w6 ⟨rfl, hb6⟩
  have D6 := hide (chain D5.out hb6)
  clear hb6 D5 EB
  go_wp2_with fail
  refine (GA.out _).mono ?_
  rintro e w7 ⟨rfl, rfl⟩
  go_wp2_with fail
  refine (GB.out _).mono ?_
  rintro e w8 ⟨rfl, rfl⟩
  go_wp2_with fail
  refine (SA.out _).mono ?_
  rintro e w9 ⟨rfl, hb9⟩
  have D9 := hide (chain D6.out hb9)
  clear hb9 D6 SA
  go_wp2_with fail
  refine (SB.out _).mono ?_
  rintro e w10 ⟨rfl, hb10⟩
  have D10 := hide (chain D9.out hb10)
  clear hb10 D9 SB
  go_wp2
  go_ret
  exact ⟨rfl, D10.out⟩
end Go.Proofs.Ytcpldojgmboipaa
