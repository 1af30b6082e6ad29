/-
  How an argument that is a range, and one that is a slice of ranges, reads as data. Condition: the places that were read lie in old memory.
-/
import Derived.Test.YtfmhpnendcikoaaGreatRows
import Derived.Test.YtfmhpnendcikoaaGreatSpanL
import Derived.ProofKit
import Derived.Lib.SmallJoins
import Derived.Below
import Derived.ChangeSame
import Derived.Deep.Slices
namespace Go.Proofs.YtfmhpnendcikoaaGreat
open Go.ChangeShapes Go.WideShapes Go.ChangeAt Go.RowKit Go.Joins

theorem rowOwn : ownKnob Tryz.prog.godebug = none := by kernel_rfl
theorem rowCellsA : Tryz.prog.cellsOf 31 = 2 := by kernel_rfl
theorem rowCellsR : Tryz.prog.cellsOf 36 = 4 := by kernel_rfl
theorem rowCellsU : Tryz.prog.cellsOf 24 = 1 := by kernel_rfl

section
variable {H : Type} {enc : TypeId × Value → H} {P : Program}
theorem post_below {f : Func} {s : ChangeSpec} {apart fresh handsOn : Bool} {W W' : World} {args : Array Value} {v : Value} {ds gs : List (DataW H)} {before pa pv : List MemPlace}
    (hW : DataW.Whole enc P f.params.toList s.vars apart W args.toList ds gs before)
    (hres : ∀ (b : Nat) (sp : Nat → Bool) (hd : Bool), DataW.TrodAll enc P W' b sp hd f.resultTypes.toList (v.resultList f.resultTypes.size) (s.fn H (ds ++ gs)).results [])
    (hargs : ∀ sp : Nat → Bool, (∀ p ∈ before, sp p.block = true) → DataW.TrodAll enc P W' 0 sp true f.params.toList args.toList (s.fn H (ds ++ gs)).args pa)
    (hvars : ∀ sp : Nat → Bool, (∀ p ∈ before, sp p.block = true) → DataW.TrodVars enc P W' sp s.vars (s.fn H (ds ++ gs)).vars pv)
    (hps : before = pa ++ pv) (hb : Below W.heap.size W W') :
    s.post enc P f apart fresh handsOn false W args v W' := by
  have hlt : ∀ p ∈ before, p.block < W.heap.size := fun p hp => hW.lt p hp
  have hold : ∀ p ∈ before, (fun b => decide (b < W.heap.size)) p.block = true := fun p hp => by simpa using hlt p hp
  refine ⟨ds, gs, before, [], pa, pv, hW, hres _ _ _, hargs _ hold, hvars _ hold, World.keptBut_mono (fun p hp => ⟨hp, ?_⟩) (hb.frame (· ∈ before)), fun h => by cases h⟩
  rw [hps, List.mem_append] at hp
  exact Or.inr hp
end

abbrev words (x : Rg) : List Value := [.int .u64 (hi x.1 : Nat), .int .u64 (lo x.1 : Nat), .int .u64 (hi x.2 : Nat), .int .u64 (lo x.2 : Nat)]

section
variable {H : Type} {enc : TypeId × Value → H} {W : World}
theorem word_of {x : Int} (wx : (Lit.int .u64 x).wf = true) : ∃ n : Nat, x = n ∧ n < 18446744073709551616 := by
  have bx : 0 ≤ x ∧ x ≤ 18446744073709551615 := by simpa [Lit.wf, IntKind.min, IntKind.max, IntKind.signed, IntKind.bits] using wx
  obtain ⟨n, rfl⟩ := Int.eq_ofNat_of_zero_le bx.1
  exact ⟨n, rfl, by omega⟩

set_option maxRecDepth 100000 in
theorem open_two {base : Nat} {cs : List Value} {fuel : Nat} {x : DataW H × List MemPlace} {sp : Nat → Bool} {hd : Bool} (h : DataW.trod enc Tryz.prog W base sp hd fuel 31 cs = some x) :
    ∃ a b : Nat, a < 18446744073709551616 ∧ b < 18446744073709551616 ∧ cs = [.int .u64 (a : Int), .int .u64 (b : Int)] ∧ x.2 = [] ∧ (Lit.int .u64 (a : Int)).wf = true ∧ (Lit.int .u64 (b : Int)).wf = true ∧ x.1 = .agg [.lit (.int .u64 (a : Int)), .lit (.int .u64 (b : Int))] := by
  obtain ⟨zs, k2, _, hz, hcs, hlen2, hg2⟩ := DataW.trod_struct Tryz.underlying31 h
  obtain ⟨z0, z1, rfl⟩ : ∃ z0 z1, zs = [z0, z1] := by
    match zs, hlen2 with
    | [z0, z1], _ => exact ⟨z0, z1, rfl⟩
  obtain ⟨c0, c1, rfl⟩ : ∃ c0 c1, cs = [c0, c1] := by
    match cs, hcs.trans rowCellsA with
    | [c0, c1], _ => exact ⟨c0, c1, rfl⟩
  have e0 := hg2 0 _ rfl
  have e1 := hg2 1 _ rfl
  simp [rowCellsU] at e0 e1
  obtain ⟨x, f0, rfl, wx⟩ := DataW.trod_int Tryz.underlying24 e0
  obtain ⟨y, f1, rfl, wy⟩ := DataW.trod_int Tryz.underlying24 e1
  simp at f0 f1
  subst f0 f1
  obtain ⟨j, rfl, hj⟩ := word_of wx
  obtain ⟨i, rfl, hi'⟩ := word_of wy
  subst hz
  exact ⟨j, i, hj, hi', rfl, rfl, wx, wy, rfl⟩

set_option maxRecDepth 100000 in
theorem open_cells {base : Nat} {cs : List Value} {fuel : Nat} {x : DataW H × List MemPlace} {sp : Nat → Bool} {hd : Bool} (h : DataW.trod enc Tryz.prog W base sp hd fuel 36 cs = some x) :
    ∃ r : Rg, FitR r ∧ cs = words r ∧ x.2 = [] ∧ ∀ (W' : World) (b : Nat) (sp' : Nat → Bool) (hd' : Bool), ∃ n, DataW.trod enc Tryz.prog W' b sp' hd' n 36 (words r) = some (x.1, []) := by
  obtain ⟨xs, k, _, hx, hcs, hlen, hg⟩ := DataW.trod_struct Tryz.underlying36 h
  obtain ⟨y0, y1, rfl⟩ : ∃ y0 y1, xs = [y0, y1] := by
    match xs, hlen with
    | [y0, y1], _ => exact ⟨y0, y1, rfl⟩
  obtain ⟨c0, c1, c2, c3, rfl⟩ : ∃ c0 c1 c2 c3, cs = [c0, c1, c2, c3] := by
    match cs, hcs.trans rowCellsR with
    | [c0, c1, c2, c3], _ => exact ⟨c0, c1, c2, c3, rfl⟩
  have g0 := hg 0 _ rfl
  have g1 := hg 1 _ rfl
  simp [rowCellsA] at g0 g1
  obtain ⟨a0, b0, ha0, hb0, f0, q0, wa0, wb0, d0⟩ := open_two g0
  obtain ⟨a1, b1, ha1, hb1, f1, q1, wa1, wb1, d1⟩ := open_two g1
  simp at f0 f1
  obtain ⟨rfl, rfl⟩ := f0
  obtain ⟨rfl, rfl⟩ := f1
  refine ⟨(a0 * 18446744073709551616 + b0, a1 * 18446744073709551616 + b1), ⟨fits_mk (by omega) (by omega), fits_mk (by omega) (by omega)⟩, ?_, ?_, ?_⟩
  · simp only [words]
    rw [hi_mk (by omega), lo_mk (by omega), hi_mk (by omega), lo_mk (by omega)]
  · rw [hx]
    simp [q0, q1]
  · intro W' b sp' hd'
    refine ⟨3, ?_⟩
    simp only [words]
    rw [hi_mk (by omega), lo_mk (by omega), hi_mk (by omega), lo_mk (by omega), hx]
    simp [DataW.trod, Tryz.underlying36, Tryz.underlying31, Tryz.underlying24, rowCellsA, rowCellsR, rowCellsU, wa0, wb0, wa1, wb1, d0, d1]

set_option maxRecDepth 100000 in
theorem open_addr {base : Nat} {v : Value} {d : DataW H} {p : List MemPlace} {r : Reach} {b0 : Nat} {sp : Nat → Bool} {hd : Bool}
    (hv : Value.okWide Tryz.prog W r b0 31 v) (h : DataW.Trod enc Tryz.prog W base sp hd 31 v d p) :
    ∃ a : Nat, Fits a ∧ v = A a ∧ p = [] ∧ ∀ (W' : World) (b : Nat) (sp' : Nat → Bool) (hd' : Bool), DataW.Trod enc Tryz.prog W' b sp' hd' 31 v d [] := by
  obtain ⟨cs, rfl, hsz⟩ := okWide_struct Tryz.underlying31 hv
  obtain ⟨fuel, hf⟩ := h
  obtain ⟨a, b, ha, hb, hcs, hp, wa, wb, hd1⟩ := open_two hf
  simp only at hp hd1
  subst hp hd1
  obtain ⟨cs⟩ := cs
  simp only [Value.cells] at hcs
  subst hcs
  refine ⟨a * 18446744073709551616 + b, fits_mk (by omega) (by omega), ?_, rfl, ?_⟩
  · rw [A, hi_mk (by omega), lo_mk (by omega)]
  · intro W' b' sp' hd'
    exact ⟨2, by simp [DataW.trod, Value.cells, Tryz.underlying31, Tryz.underlying24, rowCellsA, rowCellsU, wa, wb]⟩

set_option maxRecDepth 100000 in
theorem open_range {base : Nat} {v : Value} {d : DataW H} {p : List MemPlace} {r : Reach} {b0 : Nat} {sp : Nat → Bool} {hd : Bool}
    (hv : Value.okWide Tryz.prog W r b0 36 v) (h : DataW.Trod enc Tryz.prog W base sp hd 36 v d p) :
    ∃ x : Rg, FitR x ∧ v = RV x ∧ p = [] ∧ ∀ (W' : World) (b : Nat) (sp' : Nat → Bool) (hd' : Bool), DataW.Trod enc Tryz.prog W' b sp' hd' 36 v d [] := by
  obtain ⟨cs, rfl, hsz⟩ := okWide_struct Tryz.underlying36 hv
  obtain ⟨fuel, hf⟩ := h
  obtain ⟨x, hx, hcs, hp, hall⟩ := open_cells hf
  simp only at hp hall
  subst hp
  obtain ⟨cs⟩ := cs
  simp only [Value.cells] at hcs
  subst hcs
  exact ⟨x, hx, rfl, rfl, fun W' b sp' hd' => hall W' b sp' hd'⟩

theorem block_add (a : Go.Addr) (i : Nat) : (a.add i).block = a.block := by unfold Go.Addr.add; split <;> rfl

set_option maxRecDepth 100000 in
theorem open_rows {v : Value} {d : DataW H} {p : List MemPlace} {r : Reach} {b0 : Nat}
    (hv : Value.okWide Tryz.prog W r b0 22 v) (h : DataW.Trod enc Tryz.prog W 0 (fun _ => true) true 22 v d p) (hlt : ∀ q ∈ p, q.block < W.heap.size) :
    ∃ l : List Rg, FitL l ∧ Lst v l W ∧ ∀ (W' : World) (sp : Nat → Bool), Below W.heap.size W W' → (∀ q ∈ p, sp q.block = true) → DataW.Trod enc Tryz.prog W' 0 sp true 22 v d p := by
  obtain ⟨a0, len0, cap0, rfl⟩ := okWide_slice Tryz.underlying22 hv
  obtain ⟨fuel, hf⟩ := h
  rcases Go.Deep.open_slice Tryz.underlying22 hf with ⟨hc, hx⟩ | ⟨a, len, cap, m, n, D, Pl, hc, hb, hl, hm, hmm, hx, hcell⟩
  · simp [Value.cells] at hc
    obtain ⟨rfl, rfl, rfl⟩ := hc
    simp at hx
    obtain ⟨rfl, rfl⟩ := hx
    exact ⟨[], (fun x hx => by cases hx), Or.inl ⟨none, 0, rfl, rfl, fun _ => rfl, by omega⟩, fun W' sp _ _ => ⟨1, by simp [DataW.trod, Value.cells, Tryz.underlying22]⟩⟩
  · simp [Value.cells] at hc
    obtain ⟨rfl, rfl, rfl⟩ := hc
    simp only [if_true] at hmm
    subst hmm
    rw [rowCellsR] at hx hcell
    obtain ⟨R, hR⟩ := Go.Deep.choose_lt (α := Rg) (n := m) (p := fun i r => FitR r ∧ W.cells? 0 (a.add (i * 4)) 4 = some (words r) ∧ Pl i = [] ∧ ∀ (W' : World) (b : Nat) (sp' : Nat → Bool) (hd' : Bool), ∃ n, DataW.trod enc Tryz.prog W' b sp' hd' n 36 (words r) = some (D i, [])) (fun i hi => by
      obtain ⟨cs', h1, h2⟩ := hcell i hi
      obtain ⟨x, hx, hcs, hp, hall⟩ := open_cells h2
      subst hcs
      exact ⟨x, hx, h1, hp, hall⟩)
    simp only [Prod.mk.injEq] at hx
    obtain ⟨hxd, hxp⟩ := hx
    have hmem : ∀ j, j < m * 4 → MemPlace.cell a.block (a.off + j) ∈ p := fun j hj => by
      rw [hxp]
      exact List.mem_append_left _ (MemPlace.mem_row.2 ⟨j, hj, rfl⟩)
    refine ⟨(List.range len0).map R, ?_, ?_, ?_⟩
    · intro x hx
      obtain ⟨i, hi, rfl⟩ := List.mem_map.1 hx
      exact (hR i (Nat.lt_of_lt_of_le (List.mem_range.1 hi) hl)).1
    · have hcap : m ≤ 9223372036854775807 := hm
      by_cases h0 : len0 = 0
      · subst h0
        exact Or.inl ⟨some a, m, rfl, rfl, (fun e => by cases e), hcap⟩
      · have c0 := (World.cells?_some (hR 0 (by omega)).2.1).2.2 0 (by omega)
        have s0 : a.spot = none := by
          have := World.cell?_spot (c0.trans rfl)
          simpa [Go.Addr.add] using this
        obtain ⟨b, o, s⟩ := a
        simp only at s0
        subst s0
        refine Or.inr ⟨b, o, m, by simp, ⟨hlt _ (hmem 0 (by omega)), ?_⟩, by simpa using hl, by simpa using h0, hcap⟩
        intro j x hj
        have hjl : j < len0 := by
          have := (List.getElem?_eq_some_iff.1 hj).1
          simpa using this
        have hx : x = R j := by
          simp [hjl] at hj
          exact hj.symm
        subst hx
        have hc := (World.cells?_some (hR j (by omega)).2.1).2.2
        have k0 := hc 0 (by omega)
        have k1 := hc 1 (by omega)
        have k2 := hc 2 (by omega)
        have k3 := hc 3 (by omega)
        simp only [Go.WideShapes.add_plain] at k0 k1 k2 k3
        exact ⟨k0.trans rfl, k1.trans rfl, k2.trans rfl, k3.trans rfl⟩
    · intro W' sp hb' hsp
      have hread : ∀ i, i < m → ∃ cs n, W'.cells? 0 (a.add (i * Tryz.prog.cellsOf 36)) (Tryz.prog.cellsOf 36) = some cs ∧ DataW.trod enc Tryz.prog W' 0 sp true n 36 cs = some (D i, Pl i) := by
        intro i hi
        obtain ⟨_, h1, h2, h3⟩ := hR i hi
        obtain ⟨n, hn⟩ := h3 W' 0 sp true
        rw [rowCellsR, h2]
        refine ⟨words (R i), n, World.cells?_carry h1 (fun q hq => ?_), hn⟩
        obtain ⟨j, hj, rfl⟩ := MemPlace.mem_row.1 hq
        refine hb'.same ?_
        show (a.add (i * 4)).block < _
        rw [block_add]
        exact hlt _ (hmem 0 (by omega))
      rw [hxd, hxp]
      cases hs : sp a.block with
      | true =>
        have := Go.Deep.shut_slice_whole (enc := enc) (w := W') (held := true) (base := 0) (spare := sp) (a := a) Tryz.underlying22 hb hl hm hs D Pl hread
        rw [rowCellsR] at this
        exact this
      | false =>
        have hm0 : m = 0 := by
          rcases Nat.eq_zero_or_pos m with h | h
          · exact h
          · have := hsp _ (hmem 0 (by omega))
            have e : sp a.block = true := this
            rw [hs] at e
            cases e
        subst hm0
        have hl0 : len0 = 0 := by omega
        subst hl0
        have := Go.Deep.shut_slice (enc := enc) (w := W') (held := true) (base := 0) (spare := sp) (a := a) Tryz.underlying22 hb hl hm hs D Pl (fun i hi => by omega)
        simpa using this
end
end Go.Proofs.YtfmhpnendcikoaaGreat
