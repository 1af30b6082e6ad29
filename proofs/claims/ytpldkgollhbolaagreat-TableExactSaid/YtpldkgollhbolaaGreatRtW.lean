/-
  How an argument that is a lease is read. No condition.
-/
import Derived.Test.YtpldkgollhbolaaGreatTbRow
namespace Go.Proofs.YtpldkgollhbolaaGreat
open Go.ChangeShapes Go.WideShapes Go.ChangeAt Go.RowKit Go.Joins Go.Maps
section
variable {H : Type} {enc : TypeId × Value → H} {W : World}
theorem list8 {cs : List Value} (h : cs.length = 8) : ∃ c0 c1 c2 c3 c4 c5 c6 c7, cs = [c0, c1, c2, c3, c4, c5, c6, c7] := by
  match cs, h with
  | [c0, c1, c2, c3, c4, c5, c6, c7], _ => exact ⟨c0, c1, c2, c3, c4, c5, c6, c7, rfl⟩
set_option maxRecDepth 100000 in
set_option maxHeartbeats 1000000 in
theorem open_ls {base : Nat} {cs : List Value} {fuel : Nat} {x : DataW H × List MemPlace} {sp : Nat → Bool} {hd : Bool} (h : DataW.trod enc Tryz.prog W base sp hd fuel 30 cs = some x) :
    ∃ l : Ls, l.ok ∧ cs = wdL l ∧ x.2 = [] ∧ ∀ (W' : World) (b : Nat) (sp' : Nat → Bool) (hd' : Bool), ∃ n, DataW.trod enc Tryz.prog W' b sp' hd' n 30 (wdL l) = some (x.1, []) := by
  obtain ⟨ys, k1, _, hy, hcs, hlen1, hg1⟩ := DataW.trod_struct Tryz.underlying30 h
  obtain ⟨y0, y1, y2, y3, y4, y5, rfl⟩ : ∃ y0 y1 y2 y3 y4 y5, ys = [y0, y1, y2, y3, y4, y5] := by
    match ys, hlen1 with
    | [y0, y1, y2, y3, y4, y5], _ => exact ⟨y0, y1, y2, y3, y4, y5, rfl⟩
  obtain ⟨c1, c2, c3, c4, c5, c6, c7, c8, rfl⟩ := list8 (hcs.trans cLs)
  have l0 := hg1 0 _ rfl
  have l1 := hg1 1 _ rfl
  have l2 := hg1 2 _ rfl
  have l3 := hg1 3 _ rfl
  have l4 := hg1 4 _ rfl
  have l5 := hg1 5 _ rfl
  simp [cP, cI, cS, cN] at l0 l1 l2 l3 l4 l5
  obtain ⟨us, k2, _, hu, _, hlen2, hg2⟩ := DataW.trod_struct Tryz.underlying27 l1
  obtain ⟨u0, u1, rfl⟩ : ∃ u0 u1, us = [u0, u1] := by
    match us, hlen2 with
    | [u0, u1], _ => exact ⟨u0, u1, rfl⟩
  have m0 := hg2 0 _ rfl
  have m1 := hg2 1 _ rfl
  simp [cA, cI] at m0 m1
  obtain ⟨vs, k3, _, hv, _, hlen3, hg3⟩ := DataW.trod_struct Tryz.underlying25 m0
  obtain ⟨v0, v1, rfl⟩ : ∃ v0 v1, vs = [v0, v1] := by
    match vs, hlen3 with
    | [v0, v1], _ => exact ⟨v0, v1, rfl⟩
  have n0 := hg3 0 _ rfl
  have n1 := hg3 1 _ rfl
  simp [cU] at n0 n1
  obtain ⟨kind, f1, rfl, w1⟩ := DataW.trod_int Tryz.underlying3 l0
  obtain ⟨xh, f2, rfl, w2⟩ := DataW.trod_int Tryz.underlying23 n0
  obtain ⟨xl, f3, rfl, w3⟩ := DataW.trod_int Tryz.underlying23 n1
  obtain ⟨bits, f4, rfl, w4⟩ := DataW.trod_int Tryz.underlying3 m1
  obtain ⟨st, f5, rfl, w5⟩ := DataW.trod_int Tryz.underlying3 l2
  obtain ⟨cl, f6, rfl, w6⟩ := DataW.trod_string Tryz.underlying9 l3
  obtain ⟨ia, f7, rfl, w7⟩ := DataW.trod_int Tryz.underlying28 l4
  obtain ⟨un, f8, rfl, w8⟩ := DataW.trod_int Tryz.underlying3 l5
  simp at f1 f2 f3 f4 f5 f6 f7 f8
  subst f1 f2 f3 f4 f5 f6 f7 f8
  simp at hv
  subst hv
  simp at hu
  subst hu
  have bx : 0 ≤ xh ∧ xh ≤ 18446744073709551615 := by simpa [Lit.wf, IntKind.min, IntKind.max, IntKind.signed, IntKind.bits] using w2
  have bl : 0 ≤ xl ∧ xl ≤ 18446744073709551615 := by simpa [Lit.wf, IntKind.min, IntKind.max, IntKind.signed, IntKind.bits] using w3
  have bi : 0 ≤ ia ∧ ia ≤ 4294967295 := by simpa [Lit.wf, IntKind.min, IntKind.max, IntKind.signed, IntKind.bits] using w7
  obtain ⟨j, rfl⟩ := Int.eq_ofNat_of_zero_le bx.1
  obtain ⟨i, rfl⟩ := Int.eq_ofNat_of_zero_le bl.1
  obtain ⟨iq, rfl⟩ := Int.eq_ofNat_of_zero_le bi.1
  have e1 : wdL ⟨kind, j * 18446744073709551616 + i, bits, st, cl, iq, un⟩ = [.int .i64 kind, .int .u64 (j : Int), .int .u64 (i : Int), .int .i64 bits, .int .i64 st, .string cl, .int .u32 (iq : Int), .int .i64 un] := by
    unfold wdL
    simp only [hi_mk (show i < 18446744073709551616 by omega), lo_mk (show i < 18446744073709551616 by omega)]
  refine ⟨⟨kind, j * 18446744073709551616 + i, bits, st, cl, iq, un⟩, ⟨i64_of w1, fits_mk (by omega) (by omega), i64_of w4, i64_of w5, w6, by show iq < _; omega, i64_of w8⟩, e1.symm, by rw [hy]; simp, fun W' b sp' hd' => ⟨4, ?_⟩⟩
  rw [e1, hy]
  simp [DataW.trod, Tryz.underlying30, Tryz.underlying27, Tryz.underlying25, Tryz.underlying23, Tryz.underlying28, Tryz.underlying9, Tryz.underlying3, cLs, cP, cA, cU, cI, cS, cN, w1, w2, w3, w4, w5, w6, w7, w8]
set_option maxRecDepth 100000 in
theorem open_lease {base : Nat} {v : Value} {d : DataW H} {p : List MemPlace} {r : Reach} {b0 : Nat} {sp : Nat → Bool} {hd : Bool}
    (hv : Value.okWide Tryz.prog W r b0 30 v) (h : DataW.Trod enc Tryz.prog W base sp hd 30 v d p) :
    ∃ l : Ls, l.ok ∧ v = Lv l ∧ p = [] ∧ ∀ (W' : World) (b : Nat) (sp' : Nat → Bool) (hd' : Bool), DataW.Trod enc Tryz.prog W' b sp' hd' 30 v d [] := by
  obtain ⟨cs, rfl, hsz⟩ := okWide_struct Tryz.underlying30 hv
  obtain ⟨fuel, hf⟩ := h
  obtain ⟨c, ok, hcs, hp, hall⟩ := open_ls hf
  simp only at hp
  subst hp
  have e : Value.agg cs = Lv c := by
    obtain ⟨cs⟩ := cs
    simp only [Value.cells] at hcs
    subst hcs
    rfl
  refine ⟨c, ok, e, rfl, fun W' b sp' hd' => ?_⟩
  obtain ⟨n, hn⟩ := hall W' b sp' hd'
  exact ⟨n, by rw [show (Value.agg cs).cells.toList = wdL c from hcs]; exact hn⟩
end
end Go.Proofs.YtpldkgollhbolaaGreat
