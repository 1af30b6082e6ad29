/-
  How slices of addresses, words and leases are read. Condition: the places that were read lie in old memory.
-/
import Derived.Test.YtfmhpnendcikoaaGreatSpanRow
import Derived.Test.YtfmhpnendcikoaaGreatPoO
namespace Go.Proofs.YtfmhpnendcikoaaGreat
open Go.ChangeShapes Go.WideShapes Go.ChangeAt Go.RowKit Go.Joins

/-- a slice value that reads as a list -/
def LstG {α : Type} (wd : α → List Value) (C : Nat) (v : Value) (l : List α) (W : World) : Prop :=
  (∃ p c, v = .slice p 0 c ∧ l = [] ∧ (p = none → c = 0) ∧ c ≤ maxLen) ∨ ∃ b o c, v = .slice (some ⟨b, o, none⟩) l.length c ∧ b < W.heap.size ∧ l.length ≤ c ∧ c ≤ maxLen ∧ l ≠ [] ∧ ∀ (j : Nat) (x : α), l[j]? = some x → ∀ (i : Nat) (u : Value), (wd x)[i]? = some u → W.cell? ⟨b, o + j * C + i, none⟩ = some u
section
variable {H : Type} {enc : TypeId × Value → H} {W : World} {α : Type} {wd : α → List Value} {good : α → Prop} {t e : TypeId} {C : Nat}
set_option maxRecDepth 100000 in
theorem open_list (ht : Tryz.prog.underlying t = some (.slice e)) (hC : Tryz.prog.cellsOf e = C) (hC0 : 0 < C) (hw : ∀ x, (wd x).length = C)
    (hel : ∀ {fuel : Nat} {cs : List Value} {x : DataW H × List MemPlace}, DataW.trod enc Tryz.prog W 0 (fun _ => true) true fuel e cs = some x →
      ∃ a : α, good a ∧ cs = wd a ∧ x.2 = [] ∧ ∀ (W' : World) (b : Nat) (sp' : Nat → Bool) (hd' : Bool), ∃ n, DataW.trod enc Tryz.prog W' b sp' hd' n e (wd a) = some (x.1, []))
    {v : Value} {d : DataW H} {p : List MemPlace} {r : Reach} {b0 : Nat}
    (hv : Value.okWide Tryz.prog W r b0 t v) (h : DataW.Trod enc Tryz.prog W 0 (fun _ => true) true t v d p) (hlt : ∀ q ∈ p, q.block < W.heap.size) :
    ∃ l : List α, (∀ x ∈ l, good x) ∧ LstG wd C v l W ∧ ∀ (W' : World) (sp : Nat → Bool), Below W.heap.size W W' → (∀ q ∈ p, sp q.block = true) → DataW.Trod enc Tryz.prog W' 0 sp true t v d p := by
  obtain ⟨a0, len0, cap0, rfl⟩ := okWide_slice ht hv
  obtain ⟨fuel, hf⟩ := h
  rcases Go.Deep.open_slice ht hf with ⟨hc, hx⟩ | ⟨a, len, cap, m, n, D, Pl, hc, hb, hl, hm, hmm, hx, hcell⟩
  · simp [Value.cells] at hc
    obtain ⟨rfl, rfl, rfl⟩ := hc
    simp at hx
    obtain ⟨rfl, rfl⟩ := hx
    exact ⟨[], (fun x hx => by cases hx), Or.inl ⟨none, 0, rfl, rfl, fun _ => rfl, Nat.zero_le _⟩, fun W' sp _ _ => ⟨1, by simp [DataW.trod, Value.cells, ht]⟩⟩
  · simp [Value.cells] at hc
    obtain ⟨rfl, rfl, rfl⟩ := hc
    simp only [if_true] at hmm
    subst hmm
    rw [hC] at hx hcell
    have hR0 : ∀ i, i < m → ∃ r : α, good r ∧ W.cells? 0 (a.add (i * C)) C = some (wd r) ∧ Pl i = [] ∧ ∀ (W' : World) (b : Nat) (sp' : Nat → Bool) (hd' : Bool), ∃ n, DataW.trod enc Tryz.prog W' b sp' hd' n e (wd r) = some (D i, []) := fun i hi => by
      obtain ⟨cs', h1, h2⟩ := hcell i hi
      obtain ⟨x, hx, hcs, hp, hall⟩ := hel h2
      subst hcs
      exact ⟨x, hx, h1, hp, hall⟩
    obtain ⟨L, hLl, hL⟩ : ∃ L : List α, L.length = m ∧ ∀ i (hi : i < L.length), good L[i] ∧ W.cells? 0 (a.add (i * C)) C = some (wd L[i]) ∧ Pl i = [] ∧ ∀ (W' : World) (b : Nat) (sp' : Nat → Bool) (hd' : Bool), ∃ n, DataW.trod enc Tryz.prog W' b sp' hd' n e (wd L[i]) = some (D i, []) := by
      clear hx hcell hf
      have : ∀ k, k ≤ m → ∃ L : List α, L.length = k ∧ ∀ i (hi : i < L.length), good L[i] ∧ W.cells? 0 (a.add (i * C)) C = some (wd L[i]) ∧ Pl i = [] ∧ ∀ (W' : World) (b : Nat) (sp' : Nat → Bool) (hd' : Bool), ∃ n, DataW.trod enc Tryz.prog W' b sp' hd' n e (wd L[i]) = some (D i, []) := fun k => by
        induction k with
        | zero => exact fun _ => ⟨[], rfl, fun i hi => absurd hi (Nat.not_lt_zero _)⟩
        | succ k ih =>
          intro hk
          obtain ⟨L, h1, h2⟩ := ih (by omega)
          obtain ⟨r, hr⟩ := hR0 k (by omega)
          refine ⟨L ++ [r], by simp [h1], fun i hi => ?_⟩
          by_cases e : i < L.length
          · rw [List.getElem_append_left e]
            exact h2 i e
          · have e2 : i = L.length := by simp at hi; omega
            subst e2
            rw [List.getElem_append_right (Nat.le_refl _)]
            simp only [Nat.sub_self, List.getElem_cons_zero, h1]
            exact hr
      exact this m (Nat.le_refl _)
    simp only [Prod.mk.injEq] at hx
    obtain ⟨hxd, hxp⟩ := hx
    have hmem : ∀ j, j < m * C → MemPlace.cell a.block (a.off + j) ∈ p := fun j hj => by
      rw [hxp]
      exact List.mem_append_left _ (MemPlace.mem_row.2 ⟨j, hj, rfl⟩)
    have hpos : ∀ k, 0 < k → 0 < k * C := fun k hk => Nat.mul_pos hk hC0
    refine ⟨L.take len0, ?_, ?_, ?_⟩
    · intro x hx
      obtain ⟨i, hi, rfl⟩ := List.mem_iff_getElem.1 (List.mem_of_mem_take hx)
      exact (hL i hi).1
    · by_cases h0 : len0 = 0
      · subst h0
        exact Or.inl ⟨some a, m, rfl, by simp, fun e => (by cases e), hm⟩
      · have c0 := (World.cells?_some (hL 0 (by omega)).2.1).2.2 0 hC0
        have s0 : a.spot = none := by
          have := World.cell?_spot (c0.trans (List.getElem?_eq_getElem (by rw [hw]; exact hC0)))
          simpa [Go.Addr.add] using this
        obtain ⟨b, o, s⟩ := a
        simp only at s0
        subst s0
        have hll : (L.take len0).length = len0 := by rw [List.length_take]; omega
        refine Or.inr ⟨b, o, m, by rw [hll], hlt _ (hmem 0 (hpos m (by omega))), by rw [hll]; exact hl, hm, by intro e; rw [e] at hll; exact h0 hll.symm, ?_⟩
        intro j x hj i u hi
        have hjl : j < len0 := by
          have := (List.getElem?_eq_some_iff.1 hj).1
          rwa [hll] at this
        have hjL : j < L.length := by omega
        have hx : x = L[j] := by
          rw [List.getElem?_take_of_lt hjl, List.getElem?_eq_getElem hjL] at hj
          exact (Option.some.inj hj).symm
        subst hx
        have hil : i < C := by
          have := (List.getElem?_eq_some_iff.1 hi).1
          rwa [hw] at this
        have hc := (World.cells?_some (hL j hjL).2.1).2.2 i hil
        rw [hi] at hc
        simp only [Go.WideShapes.add_plain] at hc
        exact hc
    · intro W' sp hb' hsp
      have hread : ∀ i, i < m → ∃ cs n, W'.cells? 0 (a.add (i * Tryz.prog.cellsOf e)) (Tryz.prog.cellsOf e) = some cs ∧ DataW.trod enc Tryz.prog W' 0 sp true n e cs = some (D i, Pl i) := by
        intro i hi
        obtain ⟨_, h1, h2, h3⟩ := hL i (by omega)
        obtain ⟨n, hn⟩ := h3 W' 0 sp true
        rw [hC, h2]
        refine ⟨wd (L[i]'(by omega)), n, World.cells?_carry h1 (fun q hq => ?_), hn⟩
        obtain ⟨j, hj, rfl⟩ := MemPlace.mem_row.1 hq
        refine hb'.same ?_
        show (a.add (i * C)).block < _
        rw [block_add]
        exact hlt _ (hmem 0 (hpos m (by omega)))
      rw [hxd, hxp]
      cases hs : sp a.block with
      | true =>
        have := Go.Deep.shut_slice_whole (enc := enc) (w := W') (held := true) (base := 0) (spare := sp) (a := a) ht hb hl hm hs D Pl hread
        rw [hC] at this
        exact this
      | false =>
        have hm0 : m = 0 := by
          rcases Nat.eq_zero_or_pos m with h | h
          · exact h
          · have := hsp _ (hmem 0 (hpos m h))
            have e : sp a.block = true := this
            rw [hs] at e
            cases e
        subst hm0
        have hl0 : len0 = 0 := by omega
        subst hl0
        have := Go.Deep.shut_slice (enc := enc) (w := W') (held := true) (base := 0) (spare := sp) (a := a) ht hb hl hm hs D Pl (fun i hi => by omega)
        rw [hC] at this
        exact this
end
section
variable {H : Type} {enc : TypeId × Value → H} {W : World}
abbrev wordsA (a : Nat) : List Value := [.int .u64 (hi a : Nat), .int .u64 (lo a : Nat)]
set_option maxRecDepth 100000 in
theorem open_cellsA {base : Nat} {cs : List Value} {fuel : Nat} {x : DataW H × List MemPlace} {sp : Nat → Bool} {hd : Bool} (h : DataW.trod enc Tryz.prog W base sp hd fuel 31 cs = some x) :
    ∃ a : Nat, Fits a ∧ cs = wordsA a ∧ x.2 = [] ∧ ∀ (W' : World) (b : Nat) (sp' : Nat → Bool) (hd' : Bool), ∃ n, DataW.trod enc Tryz.prog W' b sp' hd' n 31 (wordsA a) = some (x.1, []) := by
  obtain ⟨a, b, ha, hb, hcs, hp, wa, wb, hd1⟩ := open_two h
  refine ⟨a * 18446744073709551616 + b, fits_mk (by omega) (by omega), ?_, hp, ?_⟩
  · rw [hcs, wordsA, hi_mk (by omega), lo_mk (by omega)]
  · intro W' b' sp' hd'
    refine ⟨2, ?_⟩
    rw [wordsA, hi_mk (by omega), lo_mk (by omega), hd1]
    simp [DataW.trod, Tryz.underlying31, Tryz.underlying24, rowCellsA, rowCellsU, wa, wb]
set_option maxRecDepth 100000 in
theorem open_addrs {v : Value} {d : DataW H} {p : List MemPlace} {r : Reach} {b0 : Nat}
    (hv : Value.okWide Tryz.prog W r b0 23 v) (h : DataW.Trod enc Tryz.prog W 0 (fun _ => true) true 23 v d p) (hlt : ∀ q ∈ p, q.block < W.heap.size) :
    ∃ l : List Nat, (∀ a ∈ l, Fits a) ∧ LstA v l W ∧ ∀ (W' : World) (sp : Nat → Bool), Below W.heap.size W W' → (∀ q ∈ p, sp q.block = true) → DataW.Trod enc Tryz.prog W' 0 sp true 23 v d p := by
  obtain ⟨l, h1, h3, h4⟩ := open_list (wd := wordsA) (good := Fits) Tryz.underlying23 rowCellsA (by omega) (fun _ => rfl) (fun h => open_cellsA h) hv h hlt
  refine ⟨l, h1, ?_, h4⟩
  rcases h3 with ⟨q, c, rfl, rfl, k1, k2⟩ | ⟨b, o, c, rfl, hb, hl, hc, hne, hx⟩
  · exact Or.inl ⟨q, c, rfl, rfl, k1, k2⟩
  · exact Or.inr ⟨b, o, c, rfl, ⟨hb, fun j x hj => ⟨hx j x hj 0 _ rfl, hx j x hj 1 _ rfl⟩⟩, hl, hne, hc⟩
/-- a slice of words that is read -/
def LstU (v : Value) (l : List Nat) (W : World) : Prop := (∃ p c, v = .slice p 0 c ∧ l = []) ∨ ∃ b o c, v = .slice (some ⟨b, o, none⟩) l.length c ∧ b < W.heap.size ∧ l.length ≤ maxLen ∧ ∀ (j x : Nat), l[j]? = some x → W.cell? ⟨b, o + j, none⟩ = some (.int .u64 (x : Nat))
set_option maxRecDepth 100000 in
theorem open_word {base : Nat} {cs : List Value} {fuel : Nat} {x : DataW H × List MemPlace} {sp : Nat → Bool} {hd : Bool} (h : DataW.trod enc Tryz.prog W base sp hd fuel 24 cs = some x) :
    ∃ a : Nat, a < 18446744073709551616 ∧ cs = [.int .u64 (a : Nat)] ∧ x.2 = [] ∧ ∀ (W' : World) (b : Nat) (sp' : Nat → Bool) (hd' : Bool), ∃ n, DataW.trod enc Tryz.prog W' b sp' hd' n 24 [.int .u64 (a : Nat)] = some (x.1, []) := by
  obtain ⟨z, f, rfl, w⟩ := DataW.trod_int Tryz.underlying24 h
  obtain ⟨n, rfl, hn⟩ := word_of w
  subst f
  exact ⟨n, hn, rfl, rfl, fun W' b sp' hd' => ⟨1, by simp [DataW.trod, Tryz.underlying24, w]⟩⟩
set_option maxRecDepth 100000 in
theorem open_words {v : Value} {d : DataW H} {p : List MemPlace} {r : Reach} {b0 : Nat}
    (hv : Value.okWide Tryz.prog W r b0 39 v) (h : DataW.Trod enc Tryz.prog W 0 (fun _ => true) true 39 v d p) (hlt : ∀ q ∈ p, q.block < W.heap.size) :
    ∃ l : List Nat, (∀ a ∈ l, a < 18446744073709551616) ∧ LstU v l W ∧ ∀ (W' : World) (sp : Nat → Bool), Below W.heap.size W W' → (∀ q ∈ p, sp q.block = true) → DataW.Trod enc Tryz.prog W' 0 sp true 39 v d p := by
  obtain ⟨l, h1, h3, h4⟩ := open_list (wd := fun a : Nat => [.int .u64 (a : Nat)]) (good := fun a => a < 18446744073709551616) Tryz.underlying39 rowCellsU (by omega) (fun _ => rfl) (fun h => open_word h) hv h hlt
  refine ⟨l, h1, ?_, h4⟩
  rcases h3 with ⟨q, c, rfl, rfl, k1, k2⟩ | ⟨b, o, c, rfl, hb, hl, hc, hne, hx⟩
  · exact Or.inl ⟨q, c, rfl, rfl⟩
  · refine Or.inr ⟨b, o, c, rfl, hb, Nat.le_trans hl hc, fun j x hj => ?_⟩
    have := hx j x hj 0 _ rfl
    simpa using this
theorem i64_of {x : Int} (wx : (Lit.int .i64 x).wf = true) : -9223372036854775808 ≤ x ∧ x ≤ 9223372036854775807 := by
  simpa [Lit.wf, IntKind.min, IntKind.max, IntKind.signed, IntKind.bits] using wx
theorem cLs : Tryz.prog.cellsOf 45 = 8 := by kernel_rfl
theorem cP : Tryz.prog.cellsOf 42 = 3 := by kernel_rfl
theorem cA : Tryz.prog.cellsOf 31 = 2 := by kernel_rfl
theorem cU : Tryz.prog.cellsOf 24 = 1 := by kernel_rfl
theorem cI : Tryz.prog.cellsOf 3 = 1 := by kernel_rfl
theorem cS : Tryz.prog.cellsOf 9 = 1 := by kernel_rfl
theorem cN : Tryz.prog.cellsOf 43 = 1 := by kernel_rfl
theorem list8 {cs : List Value} (h : cs.length = 8) : ∃ c1 c2 c3 c4 c5 c6 c7 c8, cs = [c1, c2, c3, c4, c5, c6, c7, c8] := by
  match cs, h with
  | [c1, c2, c3, c4, c5, c6, c7, c8], _ => exact ⟨c1, c2, c3, c4, c5, c6, c7, c8, rfl⟩
set_option maxRecDepth 100000 in
set_option maxHeartbeats 1000000 in
theorem open_lease {base : Nat} {cs : List Value} {fuel : Nat} {x : DataW H × List MemPlace} {sp : Nat → Bool} {hd : Bool} (h : DataW.trod enc Tryz.prog W base sp hd fuel 45 cs = some x) :
    ∃ c : Lz, c.ok ∧ cs = wdZ c ∧ x.2 = [] ∧ ∀ (W' : World) (b : Nat) (sp' : Nat → Bool) (hd' : Bool), ∃ n, DataW.trod enc Tryz.prog W' b sp' hd' n 45 (wdZ c) = some (x.1, []) := by
  obtain ⟨ys, k1, _, hy, hcs, hlen1, hg1⟩ := DataW.trod_struct Tryz.underlying45 h
  obtain ⟨c1, c2, c3, c4, c5, c6, c7, c8, rfl⟩ := list8 (hcs.trans cLs)
  obtain ⟨y0, y1, y2, y3, y4, y5, rfl⟩ : ∃ y0 y1 y2 y3 y4 y5, ys = [y0, y1, y2, y3, y4, y5] := by
    match ys, hlen1 with
    | [y0, y1, y2, y3, y4, y5], _ => exact ⟨y0, y1, y2, y3, y4, y5, rfl⟩
  have l0 := hg1 0 _ rfl
  have l1 := hg1 1 _ rfl
  have l2 := hg1 2 _ rfl
  have l3 := hg1 3 _ rfl
  have l4 := hg1 4 _ rfl
  have l5 := hg1 5 _ rfl
  simp [cP, cI, cS, cN] at l0 l1 l2 l3 l4 l5
  obtain ⟨us, k2, _, hu, _, hlen2, hg2⟩ := DataW.trod_struct Tryz.underlying42 l1
  obtain ⟨u0, u1, rfl⟩ : ∃ u0 u1, us = [u0, u1] := by
    match us, hlen2 with
    | [u0, u1], _ => exact ⟨u0, u1, rfl⟩
  have m0 := hg2 0 _ rfl
  have m1 := hg2 1 _ rfl
  simp [cA, cI] at m0 m1
  obtain ⟨vs, k3, _, hv, _, hlen3, hg3⟩ := DataW.trod_struct Tryz.underlying31 m0
  obtain ⟨v0, v1, rfl⟩ : ∃ v0 v1, vs = [v0, v1] := by
    match vs, hlen3 with
    | [v0, v1], _ => exact ⟨v0, v1, rfl⟩
  have n0 := hg3 0 _ rfl
  have n1 := hg3 1 _ rfl
  simp [cU] at n0 n1
  obtain ⟨kind, f1, rfl, w1⟩ := DataW.trod_int Tryz.underlying3 l0
  obtain ⟨xh, f2, rfl, w2⟩ := DataW.trod_int Tryz.underlying24 n0
  obtain ⟨xl, f3, rfl, w3⟩ := DataW.trod_int Tryz.underlying24 n1
  obtain ⟨bits, f4, rfl, w4⟩ := DataW.trod_int Tryz.underlying3 m1
  obtain ⟨st, f5, rfl, w5⟩ := DataW.trod_int Tryz.underlying3 l2
  obtain ⟨cl, f6, rfl, w6⟩ := DataW.trod_string Tryz.underlying9 l3
  obtain ⟨ia, f7, rfl, w7⟩ := DataW.trod_int Tryz.underlying43 l4
  obtain ⟨un, f8, rfl, w8⟩ := DataW.trod_int Tryz.underlying3 l5
  simp at f1 f2 f3 f4 f5 f6 f7 f8
  subst f1 f2 f3 f4 f5 f6 f7 f8
  simp at hv
  subst hv
  simp at hu
  subst hu
  have bx : 0 ≤ xh ∧ xh ≤ 18446744073709551615 := by simpa [Lit.wf, IntKind.min, IntKind.max, IntKind.signed, IntKind.bits] using w2
  have bl : 0 ≤ xl ∧ xl ≤ 18446744073709551615 := by simpa [Lit.wf, IntKind.min, IntKind.max, IntKind.signed, IntKind.bits] using w3
  have bi : 0 ≤ ia ∧ ia ≤ 4294967295 := by simpa [Lit.wf, IntKind.min, IntKind.max, IntKind.signed, IntKind.bits] using w7
  obtain ⟨j, rfl⟩ := Int.eq_ofNat_of_zero_le bx.1
  obtain ⟨i, rfl⟩ := Int.eq_ofNat_of_zero_le bl.1
  obtain ⟨iq, rfl⟩ := Int.eq_ofNat_of_zero_le bi.1
  have e1 : wdZ ⟨kind, j * 18446744073709551616 + i, bits, st, cl, iq, un⟩ = [.int .i64 kind, .int .u64 (j : Int), .int .u64 (i : Int), .int .i64 bits, .int .i64 st, .string cl, .int .u32 (iq : Int), .int .i64 un] := by
    unfold wdZ
    simp only [hi_mk (show i < 18446744073709551616 by omega), lo_mk (show i < 18446744073709551616 by omega)]
  refine ⟨⟨kind, j * 18446744073709551616 + i, bits, st, cl, iq, un⟩, ⟨i64_of w1, fits_mk (by omega) (by omega), i64_of w4, i64_of w5, w6, by show iq < _; omega, i64_of w8⟩, e1.symm, by rw [hy]; simp, fun W' b sp' hd' => ⟨4, ?_⟩⟩
  rw [e1, hy]
  simp [DataW.trod, Tryz.underlying45, Tryz.underlying42, Tryz.underlying31, Tryz.underlying24, Tryz.underlying43, Tryz.underlying9, Tryz.underlying3, cLs, cP, cA, cU, cI, cS, cN, w1, w2, w3, w4, w5, w6, w7, w8]
set_option maxRecDepth 100000 in
theorem open_leases {v : Value} {d : DataW H} {p : List MemPlace} {r : Reach} {b0 : Nat}
    (hv : Value.okWide Tryz.prog W r b0 46 v) (h : DataW.Trod enc Tryz.prog W 0 (fun _ => true) true 46 v d p) (hlt : ∀ q ∈ p, q.block < W.heap.size) :
    ∃ (l : List Lz) (q : Option Go.Addr) (c : Nat), (∀ x ∈ l, x.ok) ∧ l.length ≤ maxLen ∧ v = .slice q l.length c ∧ LstZ q l W ∧ ∀ (W' : World) (sp : Nat → Bool), Below W.heap.size W W' → (∀ q ∈ p, sp q.block = true) → DataW.Trod enc Tryz.prog W' 0 sp true 46 v d p := by
  obtain ⟨l, h1, h3, h4⟩ := open_list (wd := wdZ) (good := Lz.ok) Tryz.underlying46 cLs (by omega) (fun _ => rfl) (fun h => open_lease h) hv h hlt
  rcases h3 with ⟨q, c, rfl, rfl, k1, k2⟩ | ⟨b, o, c, rfl, hb, hl, hc, hne, hx⟩
  · exact ⟨[], q, c, h1, Nat.zero_le _, rfl, fun k x hk => (by cases hk), h4⟩
  · exact ⟨l, _, c, h1, Nat.le_trans hl hc, rfl, fun k x hk => ⟨b, o, rfl, hx k x hk 0 _ rfl, hx k x hk 1 _ rfl, hx k x hk 2 _ rfl, hx k x hk 3 _ rfl, hx k x hk 4 _ rfl, hx k x hk 5 _ rfl, hx k x hk 6 _ rfl, hx k x hk 7 _ rfl⟩, h4⟩
end
end Go.Proofs.YtfmhpnendcikoaaGreat
