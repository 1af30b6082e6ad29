/-
  How an argument that is an address reads as data, and what a call leaves. No condition.
-/
import Derived.Test.YtnbdldnbfhdhdaaRows
import Derived.Test.YtnbdldnbfhdhdaaOctB
import Derived.ProofKit
import Derived.Lib.SmallJoins
import Derived.Below
import Derived.ChangeSame
import Derived.SizedLaws
namespace Go.Proofs.Ytnbdldnbfhdhdaa
open Go.ChangeShapes Go.WideShapes Go.ChangeAt Go.RowKit Go.Joins

theorem rowOwn : ownKnob Try.prog.godebug = none := by kernel_rfl
theorem rowCellsA : Try.prog.cellsOf 24 = 2 := by kernel_rfl
theorem rowCellsU : Try.prog.cellsOf 22 = 1 := by kernel_rfl

section
variable {H : Type} {enc : TypeId × Value → H} {P : Program}
theorem post_below {f : Func} {s : ChangeSpec} {apart fresh handsOn : Bool} {W W' : World} {args : Array Value} {v : Value} {ds gs : List (DataW H)} {before pa pv : List MemPlace}
    (hW : DataW.Whole enc P f.params.toList s.vars apart W args.toList ds gs before)
    (hres : ∀ (b : Nat) (sp : Nat → Bool) (hd : Bool), DataW.TrodAll enc P W' b sp hd f.resultTypes.toList (v.resultList f.resultTypes.size) (s.fn H (ds ++ gs)).results [])
    (hargs : ∀ sp : Nat → Bool, (∀ p ∈ before, sp p.block = true) → DataW.TrodAll enc P W' 0 sp true f.params.toList args.toList (s.fn H (ds ++ gs)).args pa)
    (hvars : ∀ sp : Nat → Bool, (∀ p ∈ before, sp p.block = true) → DataW.TrodVars enc P W' sp s.vars (s.fn H (ds ++ gs)).vars pv)
    (hps : before = pa ++ pv) (hb : Below W.heap.size W W') :
    s.post enc P f apart fresh handsOn false W args v W' := by
  have hlt : ∀ p ∈ before, p.block < W.heap.size := fun p hp => hW.lt p hp
  have hold : ∀ p ∈ before, (fun b => decide (b < W.heap.size)) p.block = true := fun p hp => by simpa using hlt p hp
  refine ⟨ds, gs, before, [], pa, pv, hW, hres _ _ _, hargs _ hold, hvars _ hold, World.keptBut_mono (fun p hp => ⟨hp, ?_⟩) (hb.frame (· ∈ before)), fun h => by cases h⟩
  rw [hps, List.mem_append] at hp
  exact Or.inr hp
end

section
variable {H : Type} {enc : TypeId × Value → H} {W : World}
theorem word_of {x : Int} (wx : (Lit.int .u64 x).wf = true) : ∃ n : Nat, x = n ∧ n < 18446744073709551616 := by
  have bx : 0 ≤ x ∧ x ≤ 18446744073709551615 := by simpa [Lit.wf, IntKind.min, IntKind.max, IntKind.signed, IntKind.bits] using wx
  obtain ⟨n, rfl⟩ := Int.eq_ofNat_of_zero_le bx.1
  exact ⟨n, rfl, by omega⟩

theorem open_two {base : Nat} {cs : List Value} {fuel : Nat} {x : DataW H × List MemPlace} {sp : Nat → Bool} {hd : Bool} (h : DataW.trod enc Try.prog W base sp hd fuel 24 cs = some x) :
    ∃ a b : Nat, a < 18446744073709551616 ∧ b < 18446744073709551616 ∧ cs = [.int .u64 (a : Int), .int .u64 (b : Int)] ∧ x.2 = [] ∧ (Lit.int .u64 (a : Int)).wf = true ∧ (Lit.int .u64 (b : Int)).wf = true ∧ x.1 = .agg [.lit (.int .u64 (a : Int)), .lit (.int .u64 (b : Int))] := by
  obtain ⟨zs, k2, _, hz, hcs, hlen2, hg2⟩ := DataW.trod_struct Try.underlying24 h
  obtain ⟨z0, z1, rfl⟩ : ∃ z0 z1, zs = [z0, z1] := by
    match zs, hlen2 with
    | [z0, z1], _ => exact ⟨z0, z1, rfl⟩
  obtain ⟨c0, c1, rfl⟩ : ∃ c0 c1, cs = [c0, c1] := by
    match cs, hcs.trans rowCellsA with
    | [c0, c1], _ => exact ⟨c0, c1, rfl⟩
  have e0 := hg2 0 _ rfl
  have e1 := hg2 1 _ rfl
  simp [rowCellsU] at e0 e1
  obtain ⟨x, f0, rfl, wx⟩ := DataW.trod_int Try.underlying22 e0
  obtain ⟨y, f1, rfl, wy⟩ := DataW.trod_int Try.underlying22 e1
  simp at f0 f1
  subst f0 f1
  obtain ⟨j, rfl, hj⟩ := word_of wx
  obtain ⟨i, rfl, hi'⟩ := word_of wy
  subst hz
  exact ⟨j, i, hj, hi', rfl, rfl, wx, wy, rfl⟩

theorem open_addr {base : Nat} {v : Value} {d : DataW H} {p : List MemPlace} {r : Reach} {b0 : Nat} {sp : Nat → Bool} {hd : Bool}
    (hv : Value.okWide Try.prog W r b0 24 v) (h : DataW.Trod enc Try.prog W base sp hd 24 v d p) :
    ∃ a : Nat, Fits a ∧ v = A a ∧ p = [] ∧ ∀ (W' : World) (b : Nat) (sp' : Nat → Bool) (hd' : Bool), DataW.Trod enc Try.prog W' b sp' hd' 24 v d [] := by
  obtain ⟨cs, rfl, hsz⟩ := okWide_struct Try.underlying24 hv
  obtain ⟨fuel, hf⟩ := h
  obtain ⟨a, b, ha, hb, hcs, hp, wa, wb, hd1⟩ := open_two hf
  simp only at hp hd1
  subst hp hd1
  obtain ⟨cs⟩ := cs
  simp only [Value.cells] at hcs
  subst hcs
  refine ⟨a * 18446744073709551616 + b, fits_mk (by omega) (by omega), ?_, rfl, ?_⟩
  · rw [A, hi_mk (by omega), lo_mk (by omega)]
  · intro W' b' sp' hd'
    exact ⟨2, by simp [DataW.trod, Value.cells, Try.underlying24, Try.underlying22, rowCellsA, rowCellsU, wa, wb]⟩

end
end Go.Proofs.Ytnbdldnbfhdhdaa
