/-
  The statement BuddyRow: for every prefix and every slice of acts the law returns true; what was handed in reads as it did. No condition beyond the row's own.
-/
import Derived.Test.YtpieddddckbfdaaBuRo
import Derived.Test.YtpieddddckbfdaaBRow
import Derived.ChangeArms
namespace Go.Proofs.Ytpieddddckbfdaa
open Go.ChangeShapes Go.WideShapes Go.ChangeAt Go.RowKit Go.Joins

theorem rowCellsT : Try.prog.cellsOf 42 = 3 := by kernel_rfl
theorem rowCellsB : Try.prog.cellsOf 4 = 1 := by kernel_rfl
abbrev wordsA (x : Act3) : List Value := [.int .i64 x.1, .bool x.2.1, .int .i64 x.2.2]

section
variable {H : Type} {enc : TypeId × Value → H} {W : World}
theorem i64_of {n : Int} (wn : (Lit.int .i64 n).wf = true) : I64 n := by
  have : -9223372036854775808 ≤ n ∧ n ≤ 9223372036854775807 := by simpa [Lit.wf, IntKind.min, IntKind.max, IntKind.signed, IntKind.bits] using wn
  unfold I64
  omega
set_option maxRecDepth 100000 in
theorem open_act {base : Nat} {cs : List Value} {fuel : Nat} {x : DataW H × List MemPlace} {sp : Nat → Bool} {hd : Bool} (h : DataW.trod enc Try.prog W base sp hd fuel 42 cs = some x) :
    ∃ r : Act3, (I64 r.1 ∧ I64 r.2.2) ∧ cs = wordsA r ∧ x.2 = [] ∧ ∀ (W' : World) (b : Nat) (sp' : Nat → Bool) (hd' : Bool), ∃ n, DataW.trod enc Try.prog W' b sp' hd' n 42 (wordsA r) = some (x.1, []) := by
  obtain ⟨xs, k, _, hx, hcs, hlen, hg⟩ := DataW.trod_struct Try.underlying42 h
  obtain ⟨y0, y1, y2, rfl⟩ : ∃ y0 y1 y2, xs = [y0, y1, y2] := by
    match xs, hlen with
    | [y0, y1, y2], _ => exact ⟨y0, y1, y2, rfl⟩
  obtain ⟨c0, c1, c2, rfl⟩ : ∃ c0 c1 c2, cs = [c0, c1, c2] := by
    match cs, hcs.trans rowCellsT with
    | [c0, c1, c2], _ => exact ⟨c0, c1, c2, rfl⟩
  have g0 := hg 0 _ rfl
  have g1 := hg 1 _ rfl
  have g2 := hg 2 _ rfl
  simp [rowCellsI, rowCellsB] at g0 g1 g2
  obtain ⟨n, f0, rfl, wn⟩ := DataW.trod_int Try.underlying3 g0
  obtain ⟨b, f1, rfl⟩ := DataW.trod_bool Try.underlying4 g1
  obtain ⟨m, f2, rfl, wm⟩ := DataW.trod_int Try.underlying3 g2
  simp at f0 f1 f2
  subst f0 f1 f2
  refine ⟨(n, b, m), ⟨i64_of wn, i64_of wm⟩, rfl, ?_, ?_⟩
  · rw [hx]
    simp
  · intro W' b' sp' hd'
    refine ⟨3, ?_⟩
    simp only [wordsA]
    rw [hx]
    simp [DataW.trod, Try.underlying42, Try.underlying3, Try.underlying4, rowCellsT, rowCellsI, rowCellsB, wn, wm]

set_option maxRecDepth 100000 in
theorem open_acts {v : Value} {d : DataW H} {p : List MemPlace} {r : Reach} {b0 : Nat}
    (hv : Value.okWide Try.prog W r b0 39 v) (h : DataW.Trod enc Try.prog W 0 (fun _ => true) true 39 v d p) (hlt : ∀ q ∈ p, q.block < W.heap.size) :
    ∃ l : List Act3, FitA l ∧ LsA v l W ∧ ∀ (W' : World) (sp : Nat → Bool), Below W.heap.size W W' → (∀ q ∈ p, sp q.block = true) → DataW.Trod enc Try.prog W' 0 sp true 39 v d p := by
  obtain ⟨a0, len0, cap0, rfl⟩ := okWide_slice Try.underlying39 hv
  obtain ⟨fuel, hf⟩ := h
  rcases Go.Deep.open_slice Try.underlying39 hf with ⟨hc, hx⟩ | ⟨a, len, cap, m, n, D, Pl, hc, hb, hl, hm, hmm, hx, hcell⟩
  · simp [Value.cells] at hc
    obtain ⟨rfl, rfl, rfl⟩ := hc
    simp at hx
    obtain ⟨rfl, rfl⟩ := hx
    exact ⟨[], (fun x hx => by cases hx), Or.inl ⟨none, 0, rfl, rfl⟩, fun W' sp _ _ => ⟨1, by simp [DataW.trod, Value.cells, Try.underlying39]⟩⟩
  · simp [Value.cells] at hc
    obtain ⟨rfl, rfl, rfl⟩ := hc
    simp only [if_true] at hmm
    subst hmm
    rw [rowCellsT] at hx hcell
    obtain ⟨R, hR⟩ := Go.Deep.choose_lt (α := Act3) (n := m) (p := fun i r => (I64 r.1 ∧ I64 r.2.2) ∧ W.cells? 0 (a.add (i * 3)) 3 = some (wordsA r) ∧ Pl i = [] ∧ ∀ (W' : World) (b : Nat) (sp' : Nat → Bool) (hd' : Bool), ∃ n, DataW.trod enc Try.prog W' b sp' hd' n 42 (wordsA r) = some (D i, [])) (fun i hi => by
      obtain ⟨cs', h1, h2⟩ := hcell i hi
      obtain ⟨x, hx, hcs, hp, hall⟩ := open_act h2
      subst hcs
      exact ⟨x, hx, h1, hp, hall⟩)
    simp only [Prod.mk.injEq] at hx
    obtain ⟨hxd, hxp⟩ := hx
    have hmem : ∀ j, j < m * 3 → MemPlace.cell a.block (a.off + j) ∈ p := fun j hj => by
      rw [hxp]
      exact List.mem_append_left _ (MemPlace.mem_row.2 ⟨j, hj, rfl⟩)
    refine ⟨(List.range len0).map R, ?_, ?_, ?_⟩
    · intro x hx
      obtain ⟨i, hi, rfl⟩ := List.mem_map.1 hx
      exact (hR i (Nat.lt_of_lt_of_le (List.mem_range.1 hi) hl)).1
    · by_cases h0 : len0 = 0
      · subst h0
        exact Or.inl ⟨some a, m, rfl, rfl⟩
      · have c0 := (World.cells?_some (hR 0 (by omega)).2.1).2.2 0 (by omega)
        have s0 : a.spot = none := by
          have := World.cell?_spot (c0.trans rfl)
          simpa [Go.Addr.add] using this
        obtain ⟨b, o, s⟩ := a
        simp only at s0
        subst s0
        refine Or.inr ⟨b, o, m, by simp, ?_⟩
        intro j x hj
        have hjl : j < len0 := by
          have := (List.getElem?_eq_some_iff.1 hj).1
          simpa using this
        have hx : x = R j := by
          simp [hjl] at hj
          exact hj.symm
        subst hx
        have hc := (World.cells?_some (hR j (by omega)).2.1).2.2
        have k0 := hc 0 (by omega)
        have k1 := hc 1 (by omega)
        have k2 := hc 2 (by omega)
        simp only [Go.WideShapes.add_plain] at k0 k1 k2
        exact ⟨k0.trans rfl, k1.trans rfl, k2.trans rfl⟩
    · intro W' sp hb' hsp
      have hread : ∀ i, i < m → ∃ cs n, W'.cells? 0 (a.add (i * Try.prog.cellsOf 42)) (Try.prog.cellsOf 42) = some cs ∧ DataW.trod enc Try.prog W' 0 sp true n 42 cs = some (D i, Pl i) := by
        intro i hi
        obtain ⟨_, h1, h2, h3⟩ := hR i hi
        obtain ⟨n, hn⟩ := h3 W' 0 sp true
        rw [rowCellsT, h2]
        refine ⟨wordsA (R i), n, World.cells?_carry h1 (fun q hq => ?_), hn⟩
        obtain ⟨j, hj, rfl⟩ := MemPlace.mem_row.1 hq
        refine hb'.same ?_
        show (a.add (i * 3)).block < _
        rw [block_add]
        exact hlt _ (hmem 0 (by omega))
      rw [hxd, hxp]
      cases hs : sp a.block with
      | true =>
        have := Go.Deep.shut_slice_whole (enc := enc) (w := W') (held := true) (base := 0) (spare := sp) (a := a) Try.underlying39 hb hl hm hs D Pl hread
        rw [rowCellsT] at this
        exact this
      | false =>
        have hm0 : m = 0 := by
          rcases Nat.eq_zero_or_pos m with h | h
          · exact h
          · have := hsp _ (hmem 0 (by omega))
            have e : sp a.block = true := this
            rw [hs] at e
            cases e
        subst hm0
        have hl0 : len0 = 0 := by omega
        subst hl0
        have := Go.Deep.shut_slice (enc := enc) (w := W') (held := true) (base := 0) (spare := sp) (a := a) Try.underlying39 hb hl hm hs D Pl (fun i hi => by omega)
        simpa using this
end
set_option maxRecDepth 100000 in
theorem buddyRow_lifted (os : Os) (started : os.Started) (H : Type) (enc : TypeId × Value → H) :
    ReturnsInHanded {} Try.checked os 4 .any (Rows.buddyRowSpec.pre6 enc Try.prog Try.f4 Rows.buddyRowRow.domain false) (Rows.buddyRowSpec.post enc Try.prog Try.f4 false true false false) := by
  refine returnsInHanded_of_change (C := Try.checked) rowOwn started (by kernel_rfl) Try.func4
    (ChangeSpec.witness6 (enc := enc) (C := Try.checked) false ⟨#[], #[.agg #[.int .u64 0, .int .u64 0, .int .i64 0], .slice none 0 0], []⟩ 8 (by kernel_rfl) (by kernel_rfl) (by kernel_rfl) (by kernel_rfl)) ?_
  intro W base args ds gs before hval0 hW _ _
  have hval : ∀ (j : Nat) t v, Try.f4.params[j]? = some t → args[j]? = some v → Value.okWide Try.prog W .any base t v := hval0
  have hW' := hW
  obtain ⟨p, q, hA0, hV, rfl, _, _⟩ := hW
  have hA : DataW.TrodAll enc Try.prog W 0 (fun _ => true) true Try.f4.params.toList args.toList ds p := hA0
  rw [Try.params4] at hA hval
  obtain ⟨v0, v1, d0, d1, p0, p1, rfl, rfl, rfl, h0, h1⟩ := trodAll_two hA
  obtain ⟨rfl, rfl⟩ := trodVars_none hV
  obtain ⟨x0, q0, rfl, rfl, s0⟩ := open_prefix (hval 0 26 v0 rfl rfl) h0
  have hlt : ∀ q ∈ p1, q.block < W.heap.size := fun q hq => hW'.lt q (by simp [hq])
  obtain ⟨l, fl, hv1, s1⟩ := open_acts (hval 1 39 v1 rfl rfl) h1 hlt
  clear hA0 hval0
  simp only [List.append_nil, List.nil_append] at hW'
  refine (row_any q0 fl W hv1).mono fun e W' ⟨he, hg⟩ => ?_
  subst he
  have h3 := fun (sp : Nat → Bool) (hsp : ∀ q ∈ p1, sp q.block = true) => trodAll_mk2 (s0 W' 0 sp true) (s1 W' sp hg hsp)
  simp only [List.nil_append] at h3
  exact ⟨_, rfl, post_below (pa := p1) (pv := []) hW' (fun _ _ _ => trodAll_mk1 (shut_bool Try.underlying4 true)) (fun sp hsp => h3 sp hsp) (fun _ _ => rfl) (by simp) hg⟩

theorem buddyRow_holds : Rows.BuddyRowSaid :=
  OpenClaim.holds_of_wide 4 Try.f4 rfl rfl rfl rfl rfl rfl rfl ⟨rfl, rfl, rfl, rfl, rfl⟩ rfl rfl rfl rfl rfl (by kernel_rfl) Try.func4 (by kernel_rfl)
    (of_decide_eq_true (by kernel_rfl)) (by unfold Func.isWrapper; first | (rw [if_pos (by decide +kernel)]; kernel_rfl) | (rw [if_neg (by decide +kernel)]; exact ⟨rfl, rfl⟩))
    (fun os started H enc _ => buddyRow_lifted os started H enc)
end Go.Proofs.Ytpieddddckbfdaa
