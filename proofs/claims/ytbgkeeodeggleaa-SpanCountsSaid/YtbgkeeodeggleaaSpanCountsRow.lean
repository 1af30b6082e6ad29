/-
  The statement SpanCounts: for every slice of ranges and every slice of addresses the law returns true; what was handed in reads as it did. No condition beyond the row's own.
-/
import Derived.Test.YtbgkeeodeggleaaSpanCw
import Derived.Test.YtbgkeeodeggleaaSpanRow
namespace Go.Proofs.Ytbgkeeodeggleaa
open Go.ChangeShapes Go.WideShapes Go.ChangeAt Go.RowKit Go.Joins

abbrev wordsA (a : Nat) : List Value := [.int .u64 (hi a : Nat), .int .u64 (lo a : Nat)]
section
variable {H : Type} {enc : TypeId × Value → H} {W : World}
theorem open_cellsA {base : Nat} {cs : List Value} {fuel : Nat} {x : DataW H × List MemPlace} {sp : Nat → Bool} {hd : Bool} (h : DataW.trod enc Try.prog W base sp hd fuel 25 cs = some x) :
    ∃ a : Nat, Fits a ∧ cs = wordsA a ∧ x.2 = [] ∧ ∀ (W' : World) (b : Nat) (sp' : Nat → Bool) (hd' : Bool), ∃ n, DataW.trod enc Try.prog W' b sp' hd' n 25 (wordsA a) = some (x.1, []) := by
  obtain ⟨a, b, ha, hb, hcs, hp, wa, wb, hd1⟩ := open_two h
  refine ⟨a * 18446744073709551616 + b, fits_mk (by omega) (by omega), ?_, hp, ?_⟩
  · rw [hcs, wordsA, hi_mk (by omega), lo_mk (by omega)]
  · intro W' b' sp' hd'
    refine ⟨2, ?_⟩
    rw [wordsA, hi_mk (by omega), lo_mk (by omega), hd1]
    simp [DataW.trod, Try.underlying25, Try.underlying23, rowCellsA, rowCellsU, wa, wb]
theorem open_addrs {v : Value} {d : DataW H} {p : List MemPlace} {r : Reach} {b0 : Nat}
    (hv : Value.okWide Try.prog W r b0 36 v) (h : DataW.Trod enc Try.prog W 0 (fun _ => true) true 36 v d p) (hlt : ∀ q ∈ p, q.block < W.heap.size) :
    ∃ l : List Nat, (∀ a ∈ l, Fits a) ∧ LstA v l W ∧ ∀ (W' : World) (sp : Nat → Bool), Below W.heap.size W W' → (∀ q ∈ p, sp q.block = true) → DataW.Trod enc Try.prog W' 0 sp true 36 v d p := by
  obtain ⟨a0, len0, cap0, rfl⟩ := okWide_slice Try.underlying36 hv
  obtain ⟨fuel, hf⟩ := h
  rcases Go.Deep.open_slice Try.underlying36 hf with ⟨hc, hx⟩ | ⟨a, len, cap, m, n, D, Pl, hc, hb, hl, hm, hmm, hx, hcell⟩
  · simp [Value.cells] at hc
    obtain ⟨rfl, rfl, rfl⟩ := hc
    simp at hx
    obtain ⟨rfl, rfl⟩ := hx
    exact ⟨[], (fun x hx => by cases hx), ⟨none, 0, rfl, (fun j x hj => by simp at hj), Nat.le_refl _, by omega⟩, fun W' sp _ _ => ⟨1, by simp [DataW.trod, Value.cells, Try.underlying36]⟩⟩
  · simp [Value.cells] at hc
    obtain ⟨rfl, rfl, rfl⟩ := hc
    simp only [if_true] at hmm
    subst hmm
    rw [rowCellsA] at hx hcell
    obtain ⟨R, hR⟩ := Go.Deep.choose_lt (α := Nat) (n := m) (p := fun i r => Fits r ∧ W.cells? 0 (a.add (i * 2)) 2 = some (wordsA r) ∧ Pl i = [] ∧ ∀ (W' : World) (b : Nat) (sp' : Nat → Bool) (hd' : Bool), ∃ n, DataW.trod enc Try.prog W' b sp' hd' n 25 (wordsA r) = some (D i, [])) (fun i hi => by
      obtain ⟨cs', h1, h2⟩ := hcell i hi
      obtain ⟨x, hx, hcs, hp, hall⟩ := open_cellsA h2
      subst hcs
      exact ⟨x, hx, h1, hp, hall⟩)
    simp only [Prod.mk.injEq] at hx
    obtain ⟨hxd, hxp⟩ := hx
    have hmem : ∀ j, j < m * 2 → MemPlace.cell a.block (a.off + j) ∈ p := fun j hj => by
      rw [hxp]
      exact List.mem_append_left _ (MemPlace.mem_row.2 ⟨j, hj, rfl⟩)
    refine ⟨(List.range len0).map R, ?_, ?_, ?_⟩
    · intro x hx
      obtain ⟨i, hi, rfl⟩ := List.mem_map.1 hx
      exact (hR i (Nat.lt_of_lt_of_le (List.mem_range.1 hi) hl)).1
    · have hcap : m ≤ 9223372036854775807 := hm
      refine ⟨some a, m, by simp, ?_, by simpa using hl, hcap⟩
      intro j x hj
      have hjl : j < len0 := by
        have := (List.getElem?_eq_some_iff.1 hj).1
        simpa using this
      have hx : x = R j := by
        simp [hjl] at hj
        exact hj.symm
      subst hx
      have c0 := (World.cells?_some (hR 0 (by omega)).2.1).2.2 0 (by omega)
      have s0 : a.spot = none := by
        have := World.cell?_spot (c0.trans rfl)
        simpa [Go.Addr.add] using this
      obtain ⟨b, o, s⟩ := a
      simp only at s0
      subst s0
      have hc := (World.cells?_some (hR j (by omega)).2.1).2.2
      have k0 := hc 0 (by omega)
      have k1 := hc 1 (by omega)
      simp only [Go.WideShapes.add_plain] at k0 k1
      exact ⟨b, o, rfl, hlt _ (hmem 0 (by omega)), k0.trans rfl, k1.trans rfl⟩
    · intro W' sp hb' hsp
      have hread : ∀ i, i < m → ∃ cs n, W'.cells? 0 (a.add (i * Try.prog.cellsOf 25)) (Try.prog.cellsOf 25) = some cs ∧ DataW.trod enc Try.prog W' 0 sp true n 25 cs = some (D i, Pl i) := by
        intro i hi
        obtain ⟨_, h1, h2, h3⟩ := hR i hi
        obtain ⟨n, hn⟩ := h3 W' 0 sp true
        rw [rowCellsA, h2]
        refine ⟨wordsA (R i), n, World.cells?_carry h1 (fun q hq => ?_), hn⟩
        obtain ⟨j, hj, rfl⟩ := MemPlace.mem_row.1 hq
        refine hb'.same ?_
        show (a.add (i * 2)).block < _
        rw [block_add]
        exact hlt _ (hmem 0 (by omega))
      rw [hxd, hxp]
      cases hs : sp a.block with
      | true =>
        have := Go.Deep.shut_slice_whole (enc := enc) (w := W') (held := true) (base := 0) (spare := sp) (a := a) Try.underlying36 hb hl hm hs D Pl hread
        rw [rowCellsA] at this
        exact this
      | false =>
        have hm0 : m = 0 := by
          rcases Nat.eq_zero_or_pos m with h | h
          · exact h
          · have := hsp _ (hmem 0 (by omega))
            have e : sp a.block = true := this
            rw [hs] at e
            cases e
        subst hm0
        have hl0 : len0 = 0 := by omega
        subst hl0
        have := Go.Deep.shut_slice (enc := enc) (w := W') (held := true) (base := 0) (spare := sp) (a := a) Try.underlying36 hb hl hm hs D Pl (fun i hi => by omega)
        simpa using this
end
set_option maxRecDepth 100000 in
theorem spanCounts_lifted (os : Os) (started : os.Started) (H : Type) (enc : TypeId × Value → H) :
    ReturnsInHanded {} Try.checked os 4 .any (Rows.spanCountsSpec.pre6 enc Try.prog Try.f4 Rows.spanCountsRow.domain false) (Rows.spanCountsSpec.post enc Try.prog Try.f4 false true false false) := by
  refine returnsInHanded_of_change (C := Try.checked) rowOwn started (by kernel_rfl) Try.func4
    (ChangeSpec.witness6 (enc := enc) (C := Try.checked) false ⟨#[], #[.slice none 0 0, .slice none 0 0], []⟩ 8 (by kernel_rfl) (by kernel_rfl) (by kernel_rfl) (by kernel_rfl)) ?_
  intro W base args ds gs before hval0 hW _ _
  have hval : ∀ (j : Nat) t v, Try.f4.params[j]? = some t → args[j]? = some v → Value.okWide Try.prog W .any base t v := hval0
  have hW' := hW
  obtain ⟨p, q, hA0, hV, rfl, _, _⟩ := hW
  have hA : DataW.TrodAll enc Try.prog W 0 (fun _ => true) true Try.f4.params.toList args.toList ds p := hA0
  rw [Try.params4] at hA hval
  obtain ⟨v0, v1, d0, d1, p0, p1, rfl, rfl, rfl, h0, h1⟩ := trodAll_two hA
  obtain ⟨rfl, rfl⟩ := trodVars_none hV
  have hlt : ∀ q ∈ p0, q.block < W.heap.size := fun q hq => hW'.lt q (by simp [hq])
  have hlt1 : ∀ q ∈ p1, q.block < W.heap.size := fun q hq => hW'.lt q (by simp [hq])
  obtain ⟨l, fl, hv0, s0⟩ := open_rows (hval 0 22 v0 rfl rfl) h0 hlt
  obtain ⟨m, fm, hv1, s1⟩ := open_addrs (hval 1 36 v1 rfl rfl) h1 hlt1
  clear hA0 hval0
  simp only [List.append_nil] at hW'
  refine (counts_any fl fm W hv0 hv1).mono fun e W' ⟨he, hg⟩ => ?_
  subst he
  have h3 := fun (sp : Nat → Bool) (hsp : ∀ q ∈ p0 ++ p1, sp q.block = true) => trodAll_mk2 (s0 W' sp hg (fun q hq => hsp q (by simp [hq]))) (s1 W' sp hg (fun q hq => hsp q (by simp [hq])))
  exact ⟨_, rfl, post_below (pa := p0 ++ p1) (pv := []) hW' (fun _ _ _ => trodAll_mk1 (shut_bool Try.underlying4 true)) (fun sp hsp => h3 sp hsp) (fun _ _ => rfl) (by simp) hg⟩

theorem spanCounts_holds : Rows.SpanCountsSaid :=
  OpenClaim.holds_of_wide 4 Try.f4 rfl rfl rfl rfl rfl rfl rfl ⟨rfl, rfl, rfl, rfl, rfl⟩ rfl rfl rfl rfl rfl (by kernel_rfl) Try.func4 (by kernel_rfl)
    (of_decide_eq_true (by kernel_rfl)) (by unfold Func.isWrapper; first | (rw [if_pos (by decide +kernel)]; kernel_rfl) | (rw [if_neg (by decide +kernel)]; exact ⟨rfl, rfl⟩))
    (fun os started H enc _ => spanCounts_lifted os started H enc)
end Go.Proofs.Ytbgkeeodeggleaa
