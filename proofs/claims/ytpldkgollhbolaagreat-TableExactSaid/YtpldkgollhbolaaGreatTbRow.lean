/-
  How an argument that is a change, a slice of changes or a slice of such slices is read, and what a call leaves. Condition: the places that were read lie in old memory.
-/
import Derived.Test.YtpldkgollhbolaaGreatRows
import Derived.Test.YtpldkgollhbolaaGreatTbKp
import Derived.ProofKit
import Derived.Lib.SmallJoins
import Derived.Below
import Derived.ChangeSame
import Derived.SizedLaws
import Derived.Deep.Slices
namespace Go.Proofs.YtpldkgollhbolaaGreat
open Go.ChangeShapes Go.WideShapes Go.ChangeAt Go.RowKit Go.Joins

theorem rowOwn : ownKnob Tryz.prog.godebug = none := by kernel_rfl
section
variable {H : Type} {enc : TypeId × Value → H} {P : Program}
set_option maxRecDepth 100000 in
theorem post_below {f : Func} {s : ChangeSpec} {apart fresh handsOn : Bool} {W W' : World} {args : Array Value} {v : Value} {ds gs : List (DataW H)} {before pa pv : List MemPlace}
    (hW : DataW.Whole enc P f.params.toList s.vars apart W args.toList ds gs before)
    (hres : ∀ (b : Nat) (sp : Nat → Bool) (hd : Bool), DataW.TrodAll enc P W' b sp hd f.resultTypes.toList (v.resultList f.resultTypes.size) (s.fn H (ds ++ gs)).results [])
    (hargs : ∀ sp : Nat → Bool, (∀ p ∈ before, sp p.block = true) → DataW.TrodAll enc P W' 0 sp true f.params.toList args.toList (s.fn H (ds ++ gs)).args pa)
    (hvars : ∀ sp : Nat → Bool, (∀ p ∈ before, sp p.block = true) → DataW.TrodVars enc P W' sp s.vars (s.fn H (ds ++ gs)).vars pv)
    (hps : before = pa ++ pv) (hb : Below W.heap.size W W') :
    s.post enc P f apart fresh handsOn false W args v W' := by
  have hlt : ∀ p ∈ before, p.block < W.heap.size := fun p hp => hW.lt p hp
  have hold : ∀ p ∈ before, (fun b => decide (b < W.heap.size)) p.block = true := fun p hp => by simpa using hlt p hp
  refine ⟨ds, gs, before, [], pa, pv, hW, hres _ _ _, hargs _ hold, hvars _ hold, World.keptBut_mono (fun p hp => ⟨hp, ?_⟩) (hb.frame (· ∈ before)), fun h => by cases h⟩
  rw [hps, List.mem_append] at hp
  exact Or.inr hp
end
/-- a slice value that reads as a list -/
def LstG {α : Type} (wd : α → List Value) (C : Nat) (v : Value) (l : List α) (W : World) : Prop :=
  (∃ p c, v = .slice p 0 c ∧ l = []) ∨ ∃ b o c, v = .slice (some ⟨b, o, none⟩) l.length c ∧ b < W.heap.size ∧ l.length ≤ maxLen ∧ ∀ (j : Nat) (x : α), l[j]? = some x → ∀ (i : Nat) (u : Value), (wd x)[i]? = some u → W.cell? ⟨b, o + j * C + i, none⟩ = some u
theorem block_add (a : Go.Addr) (i : Nat) : (a.add i).block = a.block := by unfold Go.Addr.add; split <;> rfl

section
variable {H : Type} {enc : TypeId × Value → H} {W : World} {α : Type} {wd : α → List Value} {good : α → Prop} {dat : α → DataW H} {t e : TypeId} {C : Nat}
set_option maxRecDepth 100000 in
theorem open_list2 (ht : Tryz.prog.underlying t = some (.slice e)) (hC : Tryz.prog.cellsOf e = C) (hC0 : 0 < C) (hw : ∀ x, (wd x).length = C)
    (hel : ∀ {fuel : Nat} {cs : List Value} {x : DataW H × List MemPlace}, DataW.trod enc Tryz.prog W 0 (fun _ => true) true fuel e cs = some x →
      ∃ a : α, good a ∧ cs = wd a ∧ x.2 = [] ∧ x.1 = dat a ∧ ∀ (W' : World) (b : Nat) (sp' : Nat → Bool) (hd' : Bool), ∃ n, DataW.trod enc Tryz.prog W' b sp' hd' n e (wd a) = some (x.1, []))
    {v : Value} {d : DataW H} {p : List MemPlace}
    (hv : ∃ a l c, v = .slice a l c) (h : DataW.Trod enc Tryz.prog W 0 (fun _ => true) true t v d p) (hlt : ∀ q ∈ p, q.block < W.heap.size) :
    ∃ l : List α, (∀ x ∈ l, good x) ∧ (∀ x ∈ l, ∃ els spare, d = .slice els spare ∧ dat x ∈ els) ∧ LstG wd C v l W ∧ ∀ (W' : World) (sp : Nat → Bool), Below W.heap.size W W' → (∀ q ∈ p, sp q.block = true) → DataW.Trod enc Tryz.prog W' 0 sp true t v d p := by
  obtain ⟨a0, len0, cap0, rfl⟩ := hv
  obtain ⟨fuel, hf⟩ := h
  rcases Go.Deep.open_slice ht hf with ⟨hc, hx⟩ | ⟨a, len, cap, m, n, D, Pl, hc, hb, hl, hm, hmm, hx, hcell⟩
  · simp [Value.cells] at hc
    obtain ⟨rfl, rfl, rfl⟩ := hc
    simp at hx
    obtain ⟨rfl, rfl⟩ := hx
    exact ⟨[], (fun x hx => by cases hx), (fun x hx => by cases hx), Or.inl ⟨none, 0, rfl, rfl⟩, fun W' sp _ _ => ⟨1, by simp [DataW.trod, Value.cells, ht]⟩⟩
  · simp [Value.cells] at hc
    obtain ⟨rfl, rfl, rfl⟩ := hc
    simp only [if_true] at hmm
    subst hmm
    rw [hC] at hx hcell
    have hR0 : ∀ i, i < m → ∃ r : α, (good r ∧ D i = dat r) ∧ W.cells? 0 (a.add (i * C)) C = some (wd r) ∧ Pl i = [] ∧ ∀ (W' : World) (b : Nat) (sp' : Nat → Bool) (hd' : Bool), ∃ n, DataW.trod enc Tryz.prog W' b sp' hd' n e (wd r) = some (D i, []) := fun i hi => by
      obtain ⟨cs', h1, h2⟩ := hcell i hi
      obtain ⟨x, hx, hcs, hp, hdt, hall⟩ := hel h2
      subst hcs
      exact ⟨x, ⟨hx, hdt⟩, h1, hp, hall⟩
    obtain ⟨L, hLl, hL⟩ : ∃ L : List α, L.length = m ∧ ∀ i (hi : i < L.length), (good L[i] ∧ D i = dat L[i]) ∧ W.cells? 0 (a.add (i * C)) C = some (wd L[i]) ∧ Pl i = [] ∧ ∀ (W' : World) (b : Nat) (sp' : Nat → Bool) (hd' : Bool), ∃ n, DataW.trod enc Tryz.prog W' b sp' hd' n e (wd L[i]) = some (D i, []) := by
      clear hx hcell hf
      have : ∀ k, k ≤ m → ∃ L : List α, L.length = k ∧ ∀ i (hi : i < L.length), (good L[i] ∧ D i = dat L[i]) ∧ W.cells? 0 (a.add (i * C)) C = some (wd L[i]) ∧ Pl i = [] ∧ ∀ (W' : World) (b : Nat) (sp' : Nat → Bool) (hd' : Bool), ∃ n, DataW.trod enc Tryz.prog W' b sp' hd' n e (wd L[i]) = some (D i, []) := fun k => by
        induction k with
        | zero => exact fun _ => ⟨[], rfl, fun i hi => absurd hi (Nat.not_lt_zero _)⟩
        | succ k ih =>
          intro hk
          obtain ⟨L, h1, h2⟩ := ih (by omega)
          obtain ⟨r, hr⟩ := hR0 k (by omega)
          refine ⟨L ++ [r], by simp [h1], fun i hi => ?_⟩
          by_cases e : i < L.length
          · rw [List.getElem_append_left e]
            exact h2 i e
          · have e2 : i = L.length := by simp at hi; omega
            subst e2
            rw [List.getElem_append_right (Nat.le_refl _)]
            simp only [Nat.sub_self, List.getElem_cons_zero, h1]
            exact hr
      exact this m (Nat.le_refl _)
    simp only [Prod.mk.injEq] at hx
    obtain ⟨hxd, hxp⟩ := hx
    have hmem : ∀ j, j < m * C → MemPlace.cell a.block (a.off + j) ∈ p := fun j hj => by
      rw [hxp]
      exact List.mem_append_left _ (MemPlace.mem_row.2 ⟨j, hj, rfl⟩)
    have hpos : ∀ k, 0 < k → 0 < k * C := fun k hk => Nat.mul_pos hk hC0
    refine ⟨L.take len0, ?_, ?_, ?_, ?_⟩
    · intro x hx
      obtain ⟨i, hi, rfl⟩ := List.mem_iff_getElem.1 (List.mem_of_mem_take hx)
      exact (hL i hi).1.1
    · intro x hx
      obtain ⟨i, hi, rfl⟩ := List.mem_iff_getElem.1 hx
      have hi2 : i < len0 := by rw [List.length_take] at hi; omega
      refine ⟨_, _, hxd, ?_⟩
      rw [List.getElem_take, ← (hL i (by omega)).1.2]
      exact List.mem_map.2 ⟨i, List.mem_range.2 hi2, rfl⟩
    · by_cases h0 : len0 = 0
      · subst h0
        exact Or.inl ⟨some a, m, rfl, by simp⟩
      · have c0 := (World.cells?_some (hL 0 (by omega)).2.1).2.2 0 hC0
        have s0 : a.spot = none := by
          have := World.cell?_spot (c0.trans (List.getElem?_eq_getElem (by rw [hw]; exact hC0)))
          simpa [Go.Addr.add] using this
        obtain ⟨b, o, s⟩ := a
        simp only at s0
        subst s0
        have hll : (L.take len0).length = len0 := by rw [List.length_take]; omega
        refine Or.inr ⟨b, o, m, by rw [hll], hlt _ (hmem 0 (hpos m (by omega))), by rw [hll]; exact Nat.le_trans hl hm, ?_⟩
        intro j x hj i u hi
        have hjl : j < len0 := by
          have := (List.getElem?_eq_some_iff.1 hj).1
          rwa [hll] at this
        have hjL : j < L.length := by omega
        have hx : x = L[j] := by
          rw [List.getElem?_take_of_lt hjl, List.getElem?_eq_getElem hjL] at hj
          exact (Option.some.inj hj).symm
        subst hx
        have hil : i < C := by
          have := (List.getElem?_eq_some_iff.1 hi).1
          rwa [hw] at this
        have hc := (World.cells?_some (hL j hjL).2.1).2.2 i hil
        rw [hi] at hc
        simp only [Go.WideShapes.add_plain] at hc
        exact hc
    · intro W' sp hb' hsp
      have hread : ∀ i, i < m → ∃ cs n, W'.cells? 0 (a.add (i * Tryz.prog.cellsOf e)) (Tryz.prog.cellsOf e) = some cs ∧ DataW.trod enc Tryz.prog W' 0 sp true n e cs = some (D i, Pl i) := by
        intro i hi
        obtain ⟨_, h1, h2, h3⟩ := hL i (by omega)
        obtain ⟨n, hn⟩ := h3 W' 0 sp true
        rw [hC, h2]
        refine ⟨wd (L[i]'(by omega)), n, World.cells?_carry h1 (fun q hq => ?_), hn⟩
        obtain ⟨j, hj, rfl⟩ := MemPlace.mem_row.1 hq
        refine hb'.same ?_
        show (a.add (i * C)).block < _
        rw [block_add]
        exact hlt _ (hmem 0 (hpos m (by omega)))
      rw [hxd, hxp]
      cases hs : sp a.block with
      | true =>
        have := Go.Deep.shut_slice_whole (enc := enc) (w := W') (held := true) (base := 0) (spare := sp) (a := a) ht hb hl hm hs D Pl hread
        rw [hC] at this
        exact this
      | false =>
        have hm0 : m = 0 := by
          rcases Nat.eq_zero_or_pos m with h | h
          · exact h
          · have := hsp _ (hmem 0 (hpos m h))
            have e : sp a.block = true := this
            rw [hs] at e
            cases e
        subst hm0
        have hl0 : len0 = 0 := by omega
        subst hl0
        have := Go.Deep.shut_slice (enc := enc) (w := W') (held := true) (base := 0) (spare := sp) (a := a) ht hb hl hm hs D Pl (fun i hi => by omega)
        rw [hC] at this
        exact this
set_option maxRecDepth 100000 in
theorem open_list (ht : Tryz.prog.underlying t = some (.slice e)) (hC : Tryz.prog.cellsOf e = C) (hC0 : 0 < C) (hw : ∀ x, (wd x).length = C)
    (hel : ∀ {fuel : Nat} {cs : List Value} {x : DataW H × List MemPlace}, DataW.trod enc Tryz.prog W 0 (fun _ => true) true fuel e cs = some x →
      ∃ a : α, good a ∧ cs = wd a ∧ x.2 = [] ∧ x.1 = dat a ∧ ∀ (W' : World) (b : Nat) (sp' : Nat → Bool) (hd' : Bool), ∃ n, DataW.trod enc Tryz.prog W' b sp' hd' n e (wd a) = some (x.1, []))
    {v : Value} {d : DataW H} {p : List MemPlace} {r : Reach} {b0 : Nat}
    (hv : Value.okWide Tryz.prog W r b0 t v) (h : DataW.Trod enc Tryz.prog W 0 (fun _ => true) true t v d p) (hlt : ∀ q ∈ p, q.block < W.heap.size) :
    ∃ l : List α, (∀ x ∈ l, good x) ∧ (∀ x ∈ l, ∃ els spare, d = .slice els spare ∧ dat x ∈ els) ∧ LstG wd C v l W ∧ ∀ (W' : World) (sp : Nat → Bool), Below W.heap.size W W' → (∀ q ∈ p, sp q.block = true) → DataW.Trod enc Tryz.prog W' 0 sp true t v d p :=
  open_list2 ht hC hC0 hw hel (by obtain ⟨a0, len0, cap0, rfl⟩ := okWide_slice ht hv; exact ⟨_, _, _, rfl⟩) h hlt
end
theorem i64_of {x : Int} (wx : (Lit.int .i64 x).wf = true) : I64 x := by
  unfold I64
  simpa [Lit.wf, IntKind.min, IntKind.max, IntKind.signed, IntKind.bits] using wx
theorem cX : Tryz.prog.cellsOf 41 = 9 := by kernel_rfl
theorem cLs : Tryz.prog.cellsOf 30 = 8 := by kernel_rfl
theorem cP : Tryz.prog.cellsOf 27 = 3 := by kernel_rfl
theorem cA : Tryz.prog.cellsOf 25 = 2 := by kernel_rfl
theorem cU : Tryz.prog.cellsOf 23 = 1 := by kernel_rfl
theorem cI : Tryz.prog.cellsOf 3 = 1 := by kernel_rfl
theorem cB : Tryz.prog.cellsOf 4 = 1 := by kernel_rfl
theorem cS : Tryz.prog.cellsOf 9 = 1 := by kernel_rfl
theorem cN : Tryz.prog.cellsOf 28 = 1 := by kernel_rfl
section
variable {H : Type} {enc : TypeId × Value → H} {W : World}
def datC (c : Ch) : DataW H := .agg [.lit (.bool c.gone), .agg [.lit (.int .i64 c.l.kind), .agg [.agg [.lit (.int .u64 (hi c.l.p : Nat)), .lit (.int .u64 (lo c.l.p : Nat))], .lit (.int .i64 c.l.n)], .lit (.int .i64 c.l.st), .lit (.string c.l.cl.data.toList), .lit (.int .u32 (c.l.ia : Int)), .lit (.int .i64 c.l.un)]]
theorem list9 {cs : List Value} (h : cs.length = 9) : ∃ c0 c1 c2 c3 c4 c5 c6 c7 c8, cs = [c0, c1, c2, c3, c4, c5, c6, c7, c8] := by
  match cs, h with
  | [c0, c1, c2, c3, c4, c5, c6, c7, c8], _ => exact ⟨c0, c1, c2, c3, c4, c5, c6, c7, c8, rfl⟩
set_option maxRecDepth 100000 in
set_option maxHeartbeats 1000000 in
theorem open_ch {base : Nat} {cs : List Value} {fuel : Nat} {x : DataW H × List MemPlace} {sp : Nat → Bool} {hd : Bool} (h : DataW.trod enc Tryz.prog W base sp hd fuel 41 cs = some x) :
    ∃ c : Ch, c.l.ok ∧ cs = wdC c ∧ x.2 = [] ∧ x.1 = datC c ∧ ∀ (W' : World) (b : Nat) (sp' : Nat → Bool) (hd' : Bool), ∃ n, DataW.trod enc Tryz.prog W' b sp' hd' n 41 (wdC c) = some (x.1, []) := by
  obtain ⟨zs, k, _, hx, hcs, hlen, hg⟩ := DataW.trod_struct Tryz.underlying41 h
  obtain ⟨z0, z1, rfl⟩ : ∃ z0 z1, zs = [z0, z1] := by
    match zs, hlen with
    | [z0, z1], _ => exact ⟨z0, z1, rfl⟩
  obtain ⟨c0, c1, c2, c3, c4, c5, c6, c7, c8, rfl⟩ := list9 (hcs.trans cX)
  have g0 := hg 0 _ rfl
  have g1 := hg 1 _ rfl
  simp [cLs, cB] at g0 g1
  obtain ⟨ys, k1, _, hy, _, hlen1, hg1⟩ := DataW.trod_struct Tryz.underlying30 g1
  obtain ⟨y0, y1, y2, y3, y4, y5, rfl⟩ : ∃ y0 y1 y2 y3 y4 y5, ys = [y0, y1, y2, y3, y4, y5] := by
    match ys, hlen1 with
    | [y0, y1, y2, y3, y4, y5], _ => exact ⟨y0, y1, y2, y3, y4, y5, rfl⟩
  have l0 := hg1 0 _ rfl
  have l1 := hg1 1 _ rfl
  have l2 := hg1 2 _ rfl
  have l3 := hg1 3 _ rfl
  have l4 := hg1 4 _ rfl
  have l5 := hg1 5 _ rfl
  simp [cP, cI, cS, cN] at l0 l1 l2 l3 l4 l5
  obtain ⟨us, k2, _, hu, _, hlen2, hg2⟩ := DataW.trod_struct Tryz.underlying27 l1
  obtain ⟨u0, u1, rfl⟩ : ∃ u0 u1, us = [u0, u1] := by
    match us, hlen2 with
    | [u0, u1], _ => exact ⟨u0, u1, rfl⟩
  have m0 := hg2 0 _ rfl
  have m1 := hg2 1 _ rfl
  simp [cA, cI] at m0 m1
  obtain ⟨vs, k3, _, hv, _, hlen3, hg3⟩ := DataW.trod_struct Tryz.underlying25 m0
  obtain ⟨v0, v1, rfl⟩ : ∃ v0 v1, vs = [v0, v1] := by
    match vs, hlen3 with
    | [v0, v1], _ => exact ⟨v0, v1, rfl⟩
  have n0 := hg3 0 _ rfl
  have n1 := hg3 1 _ rfl
  simp [cU] at n0 n1
  obtain ⟨b0, f0, rfl⟩ := DataW.trod_bool Tryz.underlying4 g0
  obtain ⟨kind, f1, rfl, w1⟩ := DataW.trod_int Tryz.underlying3 l0
  obtain ⟨xh, f2, rfl, w2⟩ := DataW.trod_int Tryz.underlying23 n0
  obtain ⟨xl, f3, rfl, w3⟩ := DataW.trod_int Tryz.underlying23 n1
  obtain ⟨bits, f4, rfl, w4⟩ := DataW.trod_int Tryz.underlying3 m1
  obtain ⟨st, f5, rfl, w5⟩ := DataW.trod_int Tryz.underlying3 l2
  obtain ⟨cl, f6, rfl, w6⟩ := DataW.trod_string Tryz.underlying9 l3
  obtain ⟨ia, f7, rfl, w7⟩ := DataW.trod_int Tryz.underlying28 l4
  obtain ⟨un, f8, rfl, w8⟩ := DataW.trod_int Tryz.underlying3 l5
  simp at f0 f1 f2 f3 f4 f5 f6 f7 f8
  subst f0 f1 f2 f3 f4 f5 f6 f7 f8
  simp at hv
  subst hv
  simp at hu
  subst hu
  simp at hy
  subst hy
  have bx : 0 ≤ xh ∧ xh ≤ 18446744073709551615 := by simpa [Lit.wf, IntKind.min, IntKind.max, IntKind.signed, IntKind.bits] using w2
  have bl : 0 ≤ xl ∧ xl ≤ 18446744073709551615 := by simpa [Lit.wf, IntKind.min, IntKind.max, IntKind.signed, IntKind.bits] using w3
  have bi : 0 ≤ ia ∧ ia ≤ 4294967295 := by simpa [Lit.wf, IntKind.min, IntKind.max, IntKind.signed, IntKind.bits] using w7
  obtain ⟨j, rfl⟩ := Int.eq_ofNat_of_zero_le bx.1
  obtain ⟨i, rfl⟩ := Int.eq_ofNat_of_zero_le bl.1
  obtain ⟨iq, rfl⟩ := Int.eq_ofNat_of_zero_le bi.1
  have e1 : wdC ⟨b0, ⟨kind, j * 18446744073709551616 + i, bits, st, cl, iq, un⟩⟩ = [.bool b0, .int .i64 kind, .int .u64 (j : Int), .int .u64 (i : Int), .int .i64 bits, .int .i64 st, .string cl, .int .u32 (iq : Int), .int .i64 un] := by
    unfold wdC wdL
    simp only [hi_mk (show i < 18446744073709551616 by omega), lo_mk (show i < 18446744073709551616 by omega)]
  have e2 : datC (H := H) ⟨b0, ⟨kind, j * 18446744073709551616 + i, bits, st, cl, iq, un⟩⟩ = .agg [.lit (.bool b0), .agg [.lit (.int .i64 kind), .agg [.agg [.lit (.int .u64 (j : Int)), .lit (.int .u64 (i : Int))], .lit (.int .i64 bits)], .lit (.int .i64 st), .lit (.string cl.data.toList), .lit (.int .u32 (iq : Int)), .lit (.int .i64 un)]] := by
    unfold datC
    simp only [hi_mk (show i < 18446744073709551616 by omega), lo_mk (show i < 18446744073709551616 by omega)]
  refine ⟨⟨b0, ⟨kind, j * 18446744073709551616 + i, bits, st, cl, iq, un⟩⟩, ⟨i64_of w1, fits_mk (by omega) (by omega), i64_of w4, i64_of w5, w6, by show iq < _; omega, i64_of w8⟩, e1.symm, by rw [hx]; simp, by rw [hx, e2]; rfl, fun W' b sp' hd' => ⟨5, ?_⟩⟩
  rw [e1, hx]
  simp [DataW.trod, Tryz.underlying41, Tryz.underlying30, Tryz.underlying27, Tryz.underlying25, Tryz.underlying23, Tryz.underlying28, Tryz.underlying4, Tryz.underlying9, Tryz.underlying3, cX, cLs, cP, cA, cU, cI, cB, cS, cN, w1, w2, w3, w4, w5, w6, w7, w8]
set_option maxRecDepth 100000 in
theorem open_change {base : Nat} {v : Value} {d : DataW H} {p : List MemPlace} {r : Reach} {b0 : Nat} {sp : Nat → Bool} {hd : Bool}
    (hv : Value.okWide Tryz.prog W r b0 41 v) (h : DataW.Trod enc Tryz.prog W base sp hd 41 v d p) :
    ∃ c : Ch, c.l.ok ∧ v = Cv c ∧ p = [] ∧ ∀ (W' : World) (b : Nat) (sp' : Nat → Bool) (hd' : Bool), DataW.Trod enc Tryz.prog W' b sp' hd' 41 v d [] := by
  obtain ⟨cs, rfl, hsz⟩ := okWide_struct Tryz.underlying41 hv
  obtain ⟨fuel, hf⟩ := h
  obtain ⟨c, ok, hcs, hp, hdt, hall⟩ := open_ch hf
  simp only at hp hdt
  subst hp
  have e : Value.agg cs = Cv c := by
    obtain ⟨cs⟩ := cs
    simp only [Value.cells] at hcs
    subst hcs
    rfl
  refine ⟨c, ok, e, rfl, fun W' b sp' hd' => ?_⟩
  obtain ⟨n, hn⟩ := hall W' b sp' hd'
  exact ⟨n, by rw [show (Value.agg cs).cells.toList = wdC c from hcs]; exact hn⟩
set_option maxRecDepth 100000 in
theorem open_changes {v : Value} {d : DataW H} {p : List MemPlace} {r : Reach} {b0 : Nat}
    (hv : Value.okWide Tryz.prog W r b0 36 v) (h : DataW.Trod enc Tryz.prog W 0 (fun _ => true) true 36 v d p) (hlt : ∀ q ∈ p, q.block < W.heap.size) :
    ∃ (l : List Ch) (q : Option Go.Addr) (c : Nat), okL l ∧ l.length ≤ maxLen ∧ v = .slice q l.length c ∧ LstC q l W ∧ ∀ (W' : World) (sp : Nat → Bool), Below W.heap.size W W' → (∀ q ∈ p, sp q.block = true) → DataW.Trod enc Tryz.prog W' 0 sp true 36 v d p := by
  obtain ⟨l, h1, _, h3, h4⟩ := open_list (wd := wdC) (good := fun c => c.l.ok) (dat := datC) Tryz.underlying36 cX (by omega) (fun _ => rfl) (fun h => open_ch h) hv h hlt
  rcases h3 with ⟨q, c, rfl, rfl⟩ | ⟨b, o, c, rfl, hb, hl, hc⟩
  · exact ⟨[], q, c, h1, by simp, rfl, fun k x hk => (by cases hk), h4⟩
  · exact ⟨l, _, c, h1, hl, rfl, fun k x hk => ⟨b, o, rfl, hc k x hk 0 _ rfl, hc k x hk 1 _ rfl, hc k x hk 2 _ rfl, hc k x hk 3 _ rfl, hc k x hk 4 _ rfl, hc k x hk 5 _ rfl, hc k x hk 6 _ rfl, hc k x hk 7 _ rfl, hc k x hk 8 _ rfl⟩, h4⟩
set_option maxRecDepth 100000 in
theorem open_changes2 {v : Value} {d : DataW H} {p : List MemPlace} 
    (hv : ∃ a l c, v = .slice a l c) (h : DataW.Trod enc Tryz.prog W 0 (fun _ => true) true 36 v d p) (hlt : ∀ q ∈ p, q.block < W.heap.size) :
    ∃ (l : List Ch) (q : Option Go.Addr) (c : Nat), okL l ∧ l.length ≤ maxLen ∧ v = .slice q l.length c ∧ LstC q l W ∧ ∀ (W' : World) (sp : Nat → Bool), Below W.heap.size W W' → (∀ q ∈ p, sp q.block = true) → DataW.Trod enc Tryz.prog W' 0 sp true 36 v d p := by
  obtain ⟨l, h1, _, h3, h4⟩ := open_list2 (wd := wdC) (good := fun c => c.l.ok) (dat := datC) Tryz.underlying36 cX (by omega) (fun _ => rfl) (fun h => open_ch h) hv h hlt
  rcases h3 with ⟨q, c, rfl, rfl⟩ | ⟨b, o, c, rfl, hb, hl, hc⟩
  · exact ⟨[], q, c, h1, by simp, rfl, fun k x hk => (by cases hk), h4⟩
  · exact ⟨l, _, c, h1, hl, rfl, fun k x hk => ⟨b, o, rfl, hc k x hk 0 _ rfl, hc k x hk 1 _ rfl, hc k x hk 2 _ rfl, hc k x hk 3 _ rfl, hc k x hk 4 _ rfl, hc k x hk 5 _ rfl, hc k x hk 6 _ rfl, hc k x hk 7 _ rfl, hc k x hk 8 _ rfl⟩, h4⟩
theorem slice_cap {t e : TypeId} (ht : Tryz.prog.underlying t = some (.slice e)) {v : Value} {d : DataW H} {p : List MemPlace} (h : DataW.Trod enc Tryz.prog W 0 (fun _ => true) true t v d p) : ∀ (q : Option Go.Addr) (n c : Nat), v = .slice q n c → n ≤ c ∧ (q = none → c = 0) := by
  rintro q n c rfl
  obtain ⟨fuel, hf⟩ := h
  rcases Go.Deep.open_slice ht hf with ⟨hc, _⟩ | ⟨a, len, cap, m, _, _, _, hc, _, hl, _⟩
  · simp [Value.cells] at hc
    obtain ⟨rfl, rfl, rfl⟩ := hc
    exact ⟨Nat.le_refl _, fun _ => rfl⟩
  · simp [Value.cells] at hc
    obtain ⟨rfl, rfl, rfl⟩ := hc
    exact ⟨hl, fun e => by cases e⟩
theorem cR : Tryz.prog.cellsOf 36 = 1 := by kernel_rfl
set_option maxRecDepth 100000 in
theorem open_rows {v : Value} {d : DataW H} {p : List MemPlace} {r : Reach} {b0 : Nat}
    (hv : Value.okWide Tryz.prog W r b0 22 v) (h : DataW.Trod enc Tryz.prog W 0 (fun _ => true) true 22 v d p) (hlt : ∀ q ∈ p, q.block < W.heap.size) :
    ∃ (ls : List (List Ch)) (q : Option Go.Addr) (c : Nat), (∀ l ∈ ls, okL l) ∧ ls.length ≤ maxLen ∧ v = .slice q ls.length c ∧ RwsC q ls W ∧ ∀ (W' : World) (sp : Nat → Bool), Below W.heap.size W W' → (∀ q ∈ p, sp q.block = true) → DataW.Trod enc Tryz.prog W' 0 sp true 22 v d p := by
  have ht := Tryz.underlying22
  obtain ⟨a0, len0, cap0, rfl⟩ := okWide_slice ht hv
  obtain ⟨fuel, hf⟩ := h
  rcases Go.Deep.open_slice ht hf with ⟨hc, hx⟩ | ⟨a, len, cap, m, n, D, Pl, hc, hb, hl, hm, hmm, hx, hcell⟩
  · simp [Value.cells] at hc
    obtain ⟨rfl, rfl, rfl⟩ := hc
    simp at hx
    obtain ⟨rfl, rfl⟩ := hx
    exact ⟨[], none, 0, (fun x hx => by cases hx), by simp, rfl, (fun k l hk => by cases hk), fun W' sp _ _ => ⟨1, by simp [DataW.trod, Value.cells, ht]⟩⟩
  · simp [Value.cells] at hc
    obtain ⟨rfl, rfl, rfl⟩ := hc
    simp only [if_true] at hmm
    subst hmm
    rw [cR] at hx hcell
    simp only [Prod.mk.injEq] at hx
    obtain ⟨hxd, hxp⟩ := hx
    have each : ∀ i, i < m → ∃ y : List Ch × Option Go.Addr × Nat, okL y.1 ∧ W.cells? 0 (a.add (i * 1)) 1 = some [.slice y.2.1 y.1.length y.2.2] ∧ LstC y.2.1 y.1 W ∧
        ∀ (W' : World) (sp : Nat → Bool), Below W.heap.size W W' → (∀ q ∈ p, sp q.block = true) → ∃ n, DataW.trod enc Tryz.prog W' 0 sp true n 36 [.slice y.2.1 y.1.length y.2.2] = some (D i, Pl i) := by
      intro i hi
      obtain ⟨cs', h1, h2⟩ := hcell i hi
      obtain ⟨aa, ll, cc, hV⟩ : ∃ aa ll cc, cs' = [.slice aa ll cc] := by
        rcases Go.Deep.open_slice Tryz.underlying36 h2 with ⟨hc2, _⟩ | ⟨a2, l2, c2, _, _, _, _, hc2, _⟩
        · exact ⟨none, 0, 0, hc2⟩
        · exact ⟨some a2, l2, c2, hc2⟩
      subst hV
      have hin : ∀ q ∈ Pl i, q ∈ p := by
        intro q hq; rw [hxp]; exact List.mem_append_right _ (List.mem_flatMap.2 ⟨i, List.mem_range.2 hi, hq⟩)
      obtain ⟨l, q, c, o1, _, o2, o3, o4⟩ := open_changes2 (v := .slice aa ll cc) ⟨aa, ll, cc, rfl⟩ ⟨n, by simpa [Value.cells] using h2⟩ (fun q hq => hlt q (hin q hq))
      cases o2
      refine ⟨(l, aa, cc), o1, h1, o3, fun W' sp hb' hsp => ?_⟩
      obtain ⟨n2, hn2⟩ := o4 W' sp hb' (fun q hq => hsp q (hin q hq))
      exact ⟨n2, by simpa [Value.cells] using hn2⟩
    obtain ⟨y, hy⟩ := Go.Deep.choose_lt each
    clear each hcell
    have hlen : ((List.range len0).map (fun i => (y i).1)).length = len0 := by simp
    have hmem : ∀ j, j < m → MemPlace.cell a.block (a.off + j) ∈ p := fun j hj => by
      rw [hxp]
      exact List.mem_append_left _ (MemPlace.mem_row.2 ⟨j, by omega, rfl⟩)
    refine ⟨(List.range len0).map (fun i => (y i).1), some a, m, ?_, by rw [hlen]; exact Nat.le_trans hl hm, by rw [hlen], ?_, ?_⟩
    · intro l hl2
      obtain ⟨i, hi, rfl⟩ := List.mem_map.1 hl2
      exact (hy i (by have := List.mem_range.1 hi; omega)).1
    · intro k l hk
      have hkl : k < len0 := by
        have := (List.getElem?_eq_some_iff.1 hk).1
        rwa [hlen] at this
      obtain rfl : (y k).1 = l := by
        rw [List.getElem?_map, List.getElem?_range hkl] at hk
        exact Option.some.inj hk
      obtain ⟨_, h1, h2, _⟩ := hy k (by omega)
      have c0 := (World.cells?_some (hy 0 (by omega)).2.1).2.2 0 (by omega)
      have s0 : a.spot = none := by
        have := World.cell?_spot (c0.trans (List.getElem?_eq_getElem (by simp)))
        simpa [Go.Addr.add] using this
      obtain ⟨b, o, s⟩ := a
      simp only at s0
      subst s0
      have c1 := (World.cells?_some h1).2.2 0 (by omega)
      simp only [Go.WideShapes.add_plain] at c1
      exact ⟨b, o, (y k).2.1, (y k).2.2, rfl, by simpa using c1, h2⟩
    · intro W' sp hb' hsp
      have hread : ∀ i, i < m → ∃ cs n, W'.cells? 0 (a.add (i * Tryz.prog.cellsOf 36)) (Tryz.prog.cellsOf 36) = some cs ∧ DataW.trod enc Tryz.prog W' 0 sp true n 36 cs = some (D i, Pl i) := by
        intro i hi
        obtain ⟨_, h1, _, h3⟩ := hy i hi
        obtain ⟨n, hn⟩ := h3 W' sp hb' hsp
        rw [cR]
        refine ⟨_, n, World.cells?_carry h1 (fun q hq => ?_), hn⟩
        obtain ⟨j, hj, rfl⟩ := MemPlace.mem_row.1 hq
        refine hb'.same ?_
        show (a.add (i * 1)).block < _
        rw [block_add]
        exact hlt _ (hmem 0 (by omega))
      rw [hxd, hxp]
      cases hs : sp a.block with
      | true =>
        have := Go.Deep.shut_slice_whole (enc := enc) (w := W') (held := true) (base := 0) (spare := sp) (a := a) ht hb hl hm hs D Pl hread
        rw [cR] at this
        exact this
      | false =>
        have hm0 : m = 0 := by
          rcases Nat.eq_zero_or_pos m with h | h
          · exact h
          · have := hsp _ (hmem 0 h)
            have e : sp a.block = true := this
            rw [hs] at e
            cases e
        subst hm0
        have hl0 : len0 = 0 := by omega
        subst hl0
        have := Go.Deep.shut_slice (enc := enc) (w := W') (held := true) (base := 0) (spare := sp) (a := a) ht hb hl hm hs D Pl (fun i hi => by omega)
        rw [cR] at this
        exact this
end
end Go.Proofs.YtpldkgollhbolaaGreat
