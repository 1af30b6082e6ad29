/-
  How slices of options, strings and ints are read, and what a call leaves. Condition: the places that were read lie in old memory.
-/
import Derived.Test.YtcpldojgmboipaaRows
import Derived.Test.YtcpldojgmboipaaSxI
import Derived.ProofKit
import Derived.Lib.SmallJoins
import Derived.Below
import Derived.ChangeSame
import Derived.SizedLaws
import Derived.Deep.Slices
namespace Go.Proofs.Ytcpldojgmboipaa
open Go.ChangeShapes Go.WideShapes Go.ChangeAt Go.RowKit Go.Joins

theorem rowOwn : ownKnob Try.prog.godebug = none := by kernel_rfl
section
variable {H : Type} {enc : TypeId × Value → H} {P : Program}
set_option maxRecDepth 100000 in
theorem post_below {f : Func} {s : ChangeSpec} {apart fresh handsOn : Bool} {W W' : World} {args : Array Value} {v : Value} {ds gs : List (DataW H)} {before pa pv : List MemPlace}
    (hW : DataW.Whole enc P f.params.toList s.vars apart W args.toList ds gs before)
    (hres : ∀ (b : Nat) (sp : Nat → Bool) (hd : Bool), DataW.TrodAll enc P W' b sp hd f.resultTypes.toList (v.resultList f.resultTypes.size) (s.fn H (ds ++ gs)).results [])
    (hargs : ∀ sp : Nat → Bool, (∀ p ∈ before, sp p.block = true) → DataW.TrodAll enc P W' 0 sp true f.params.toList args.toList (s.fn H (ds ++ gs)).args pa)
    (hvars : ∀ sp : Nat → Bool, (∀ p ∈ before, sp p.block = true) → DataW.TrodVars enc P W' sp s.vars (s.fn H (ds ++ gs)).vars pv)
    (hps : before = pa ++ pv) (hb : Below W.heap.size W W') :
    s.post enc P f apart fresh handsOn false W args v W' := by
  have hlt : ∀ p ∈ before, p.block < W.heap.size := fun p hp => hW.lt p hp
  have hold : ∀ p ∈ before, (fun b => decide (b < W.heap.size)) p.block = true := fun p hp => by simpa using hlt p hp
  refine ⟨ds, gs, before, [], pa, pv, hW, hres _ _ _, hargs _ hold, hvars _ hold, World.keptBut_mono (fun p hp => ⟨hp, ?_⟩) (hb.frame (· ∈ before)), fun h => by cases h⟩
  rw [hps, List.mem_append] at hp
  exact Or.inr hp
end
theorem block_add (a : Go.Addr) (i : Nat) : (a.add i).block = a.block := by unfold Go.Addr.add; split <;> rfl
/-- a slice value that reads as a list -/
def LstG {α : Type} (wd : α → List Value) (C : Nat) (v : Value) (l : List α) (W : World) : Prop :=
  (∃ p c, v = .slice p 0 c ∧ l = [] ∧ (p = none → c = 0) ∧ c ≤ maxLen) ∨ ∃ b o c, v = .slice (some ⟨b, o, none⟩) l.length c ∧ b < W.heap.size ∧ l.length ≤ c ∧ c ≤ maxLen ∧ l ≠ [] ∧ ∀ (j : Nat) (x : α), l[j]? = some x → ∀ (i : Nat) (u : Value), (wd x)[i]? = some u → W.cell? ⟨b, o + j * C + i, none⟩ = some u
section
variable {H : Type} {enc : TypeId × Value → H} {W : World} {α : Type} {wd : α → List Value} {good : α → Prop} {dat : α → DataW H} {t e : TypeId} {C : Nat}
set_option maxRecDepth 100000 in
theorem open_list2 (ht : Try.prog.underlying t = some (.slice e)) (hC : Try.prog.cellsOf e = C) (hC0 : 0 < C) (hw : ∀ x, (wd x).length = C)
    (hel : ∀ {fuel : Nat} {cs : List Value} {x : DataW H × List MemPlace}, DataW.trod enc Try.prog W 0 (fun _ => true) true fuel e cs = some x →
      ∃ a : α, good a ∧ cs = wd a ∧ x.2 = [] ∧ x.1 = dat a ∧ ∀ (W' : World) (b : Nat) (sp' : Nat → Bool) (hd' : Bool), ∃ n, DataW.trod enc Try.prog W' b sp' hd' n e (wd a) = some (x.1, []))
    {v : Value} {d : DataW H} {p : List MemPlace}
    (hv : ∃ a n c, v = .slice a n c) (h : DataW.Trod enc Try.prog W 0 (fun _ => true) true t v d p) (hlt : ∀ q ∈ p, q.block < W.heap.size) :
    ∃ l : List α, (∀ x ∈ l, good x) ∧ (∀ x ∈ l, ∃ els spare, d = .slice els spare ∧ dat x ∈ els ∧ els.length = l.length) ∧ LstG wd C v l W ∧ ∀ (W' : World) (sp : Nat → Bool), Below W.heap.size W W' → (∀ q ∈ p, sp q.block = true) → DataW.Trod enc Try.prog W' 0 sp true t v d p := by
  obtain ⟨a0, len0, cap0, rfl⟩ := hv
  obtain ⟨fuel, hf⟩ := h
  rcases Go.Deep.open_slice ht hf with ⟨hc, hx⟩ | ⟨a, len, cap, m, n, D, Pl, hc, hb, hl, hm, hmm, hx, hcell⟩
  · simp [Value.cells] at hc
    obtain ⟨rfl, rfl, rfl⟩ := hc
    simp at hx
    obtain ⟨rfl, rfl⟩ := hx
    exact ⟨[], (fun x hx => by cases hx), (fun x hx => by cases hx), Or.inl ⟨none, 0, rfl, rfl, fun _ => rfl, Nat.zero_le _⟩, fun W' sp _ _ => ⟨1, by simp [DataW.trod, Value.cells, ht]⟩⟩
  · simp [Value.cells] at hc
    obtain ⟨rfl, rfl, rfl⟩ := hc
    simp only [if_true] at hmm
    subst hmm
    rw [hC] at hx hcell
    have hR0 : ∀ i, i < m → ∃ r : α, (good r ∧ D i = dat r) ∧ W.cells? 0 (a.add (i * C)) C = some (wd r) ∧ Pl i = [] ∧ ∀ (W' : World) (b : Nat) (sp' : Nat → Bool) (hd' : Bool), ∃ n, DataW.trod enc Try.prog W' b sp' hd' n e (wd r) = some (D i, []) := fun i hi => by
      obtain ⟨cs', h1, h2⟩ := hcell i hi
      obtain ⟨x, hx, hcs, hp, hdt, hall⟩ := hel h2
      subst hcs
      exact ⟨x, ⟨hx, hdt⟩, h1, hp, hall⟩
    obtain ⟨L, hLl, hL⟩ : ∃ L : List α, L.length = m ∧ ∀ i (hi : i < L.length), (good L[i] ∧ D i = dat L[i]) ∧ W.cells? 0 (a.add (i * C)) C = some (wd L[i]) ∧ Pl i = [] ∧ ∀ (W' : World) (b : Nat) (sp' : Nat → Bool) (hd' : Bool), ∃ n, DataW.trod enc Try.prog W' b sp' hd' n e (wd L[i]) = some (D i, []) := by
      clear hx hcell hf
      have : ∀ k, k ≤ m → ∃ L : List α, L.length = k ∧ ∀ i (hi : i < L.length), (good L[i] ∧ D i = dat L[i]) ∧ W.cells? 0 (a.add (i * C)) C = some (wd L[i]) ∧ Pl i = [] ∧ ∀ (W' : World) (b : Nat) (sp' : Nat → Bool) (hd' : Bool), ∃ n, DataW.trod enc Try.prog W' b sp' hd' n e (wd L[i]) = some (D i, []) := fun k => by
        induction k with
        | zero => exact fun _ => ⟨[], rfl, fun i hi => absurd hi (Nat.not_lt_zero _)⟩
        | succ k ih =>
          intro hk
          obtain ⟨L, h1, h2⟩ := ih (by omega)
          obtain ⟨r, hr⟩ := hR0 k (by omega)
          refine ⟨L ++ [r], by simp [h1], fun i hi => ?_⟩
          by_cases e : i < L.length
          · rw [List.getElem_append_left e]
            exact h2 i e
          · have e2 : i = L.length := by simp at hi; omega
            subst e2
            rw [List.getElem_append_right (Nat.le_refl _)]
            simp only [Nat.sub_self, List.getElem_cons_zero, h1]
            exact hr
      exact this m (Nat.le_refl _)
    simp only [Prod.mk.injEq] at hx
    obtain ⟨hxd, hxp⟩ := hx
    have hmem : ∀ j, j < m * C → MemPlace.cell a.block (a.off + j) ∈ p := fun j hj => by
      rw [hxp]
      exact List.mem_append_left _ (MemPlace.mem_row.2 ⟨j, hj, rfl⟩)
    have hpos : ∀ k, 0 < k → 0 < k * C := fun k hk => Nat.mul_pos hk hC0
    refine ⟨L.take len0, ?_, ?_, ?_, ?_⟩
    · intro x hx
      obtain ⟨i, hi, rfl⟩ := List.mem_iff_getElem.1 (List.mem_of_mem_take hx)
      exact (hL i hi).1.1
    · intro x hx
      obtain ⟨i, hi, rfl⟩ := List.mem_iff_getElem.1 hx
      have hi2 : i < len0 := by rw [List.length_take] at hi; omega
      refine ⟨_, _, hxd, ?_, ?_⟩
      · rw [List.getElem_take, ← (hL i (by omega)).1.2]
        exact List.mem_map.2 ⟨i, List.mem_range.2 hi2, rfl⟩
      · rw [List.length_map, List.length_range, List.length_take]; omega
    · by_cases h0 : len0 = 0
      · subst h0
        exact Or.inl ⟨some a, m, rfl, by simp, fun e => (by cases e), hm⟩
      · have c0 := (World.cells?_some (hL 0 (by omega)).2.1).2.2 0 hC0
        have s0 : a.spot = none := by
          have := World.cell?_spot (c0.trans (List.getElem?_eq_getElem (by rw [hw]; exact hC0)))
          simpa [Go.Addr.add] using this
        obtain ⟨b, o, s⟩ := a
        simp only at s0
        subst s0
        have hll : (L.take len0).length = len0 := by rw [List.length_take]; omega
        refine Or.inr ⟨b, o, m, by rw [hll], hlt _ (hmem 0 (hpos m (by omega))), by rw [hll]; exact hl, hm, by intro e; rw [e] at hll; exact h0 hll.symm, ?_⟩
        intro j x hj i u hi
        have hjl : j < len0 := by
          have := (List.getElem?_eq_some_iff.1 hj).1
          rwa [hll] at this
        have hjL : j < L.length := by omega
        have hx : x = L[j] := by
          rw [List.getElem?_take_of_lt hjl, List.getElem?_eq_getElem hjL] at hj
          exact (Option.some.inj hj).symm
        subst hx
        have hil : i < C := by
          have := (List.getElem?_eq_some_iff.1 hi).1
          rwa [hw] at this
        have hc := (World.cells?_some (hL j hjL).2.1).2.2 i hil
        rw [hi] at hc
        simp only [Go.WideShapes.add_plain] at hc
        exact hc
    · intro W' sp hb' hsp
      have hread : ∀ i, i < m → ∃ cs n, W'.cells? 0 (a.add (i * Try.prog.cellsOf e)) (Try.prog.cellsOf e) = some cs ∧ DataW.trod enc Try.prog W' 0 sp true n e cs = some (D i, Pl i) := by
        intro i hi
        obtain ⟨_, h1, h2, h3⟩ := hL i (by omega)
        obtain ⟨n, hn⟩ := h3 W' 0 sp true
        rw [hC, h2]
        refine ⟨wd (L[i]'(by omega)), n, World.cells?_carry h1 (fun q hq => ?_), hn⟩
        obtain ⟨j, hj, rfl⟩ := MemPlace.mem_row.1 hq
        refine hb'.same ?_
        show (a.add (i * C)).block < _
        rw [block_add]
        exact hlt _ (hmem 0 (hpos m (by omega)))
      rw [hxd, hxp]
      cases hs : sp a.block with
      | true =>
        have := Go.Deep.shut_slice_whole (enc := enc) (w := W') (held := true) (base := 0) (spare := sp) (a := a) ht hb hl hm hs D Pl hread
        rw [hC] at this
        exact this
      | false =>
        have hm0 : m = 0 := by
          rcases Nat.eq_zero_or_pos m with h | h
          · exact h
          · have := hsp _ (hmem 0 (hpos m h))
            have e : sp a.block = true := this
            rw [hs] at e
            cases e
        subst hm0
        have hl0 : len0 = 0 := by omega
        subst hl0
        have := Go.Deep.shut_slice (enc := enc) (w := W') (held := true) (base := 0) (spare := sp) (a := a) ht hb hl hm hs D Pl (fun i hi => by omega)
        rw [hC] at this
        exact this
end
theorem cO : Try.prog.cellsOf 40 = 2 := by kernel_rfl
theorem c16 : Try.prog.cellsOf 38 = 1 := by kernel_rfl
theorem c32 : Try.prog.cellsOf 34 = 1 := by kernel_rfl
theorem c64 : Try.prog.cellsOf 68 = 1 := by kernel_rfl
theorem cAd : Try.prog.cellsOf 70 = 2 := by kernel_rfl
theorem cPf : Try.prog.cellsOf 72 = 3 := by kernel_rfl
theorem cIn : Try.prog.cellsOf 74 = 6 := by kernel_rfl
theorem cIA : Try.prog.cellsOf 37 = 6 := by kernel_rfl
theorem cLs : Try.prog.cellsOf 35 = 1 := by kernel_rfl
theorem cS : Try.prog.cellsOf 9 = 1 := by kernel_rfl
theorem cI : Try.prog.cellsOf 3 = 1 := by kernel_rfl
theorem u16_of_wf {x : Int} (w : (Lit.int .u16 x).wf = true) : ∃ b : UInt16, x = (b.toNat : Int) := by
  have hb : 0 ≤ x ∧ x ≤ 65535 := by simpa [Lit.wf, IntKind.min, IntKind.max, IntKind.signed, IntKind.bits] using w
  refine ⟨UInt16.ofNat x.toNat, ?_⟩
  rw [UInt16.toNat_ofNat']
  omega
theorem u32_of_wf {x : Int} (w : (Lit.int .u32 x).wf = true) : ∃ b : UInt32, x = (b.toNat : Int) := by
  have hb : 0 ≤ x ∧ x ≤ 4294967295 := by simpa [Lit.wf, IntKind.min, IntKind.max, IntKind.signed, IntKind.bits] using w
  refine ⟨UInt32.ofNat x.toNat, ?_⟩
  rw [UInt32.toNat_ofNat']
  omega
theorem list6 {α : Type} {cs : List α} (h : cs.length = 6) : ∃ c0 c1 c2 c3 c4 c5, cs = [c0, c1, c2, c3, c4, c5] := by
  match cs, h with
  | [c0, c1, c2, c3, c4, c5], _ => exact ⟨c0, c1, c2, c3, c4, c5, rfl⟩
theorem list4 {α : Type} {cs : List α} (h : cs.length = 4) : ∃ c0 c1 c2 c3, cs = [c0, c1, c2, c3] := by
  match cs, h with
  | [c0, c1, c2, c3], _ => exact ⟨c0, c1, c2, c3, rfl⟩
theorem list2' {α : Type} {cs : List α} (h : cs.length = 2) : ∃ c0 c1, cs = [c0, c1] := by
  match cs, h with
  | [c0, c1], _ => exact ⟨c0, c1, rfl⟩
section
variable {H : Type} {enc : TypeId × Value → H} {W : World}
def datO (x : Opt) : DataW H := .agg [.lit (.int .u16 (x.1.toNat : Int)), .lit (.string (lb x.2))]
set_option maxRecDepth 100000 in
theorem open_opt {base : Nat} {cs : List Value} {fuel : Nat} {x : DataW H × List MemPlace} {sp : Nat → Bool} {hd : Bool} (h : DataW.trod enc Try.prog W base sp hd fuel 40 cs = some x) :
    ∃ a : Opt, a.2.size ≤ maxLen ∧ cs = cells2 a ∧ x.2 = [] ∧ x.1 = datO a ∧ ∀ (W' : World) (b : Nat) (sp' : Nat → Bool) (hd' : Bool), ∃ n, DataW.trod enc Try.prog W' b sp' hd' n 40 (cells2 a) = some (x.1, []) := by
  obtain ⟨zs, k2, _, hz, hcs, hlen2, hg2⟩ := DataW.trod_struct Try.underlying40 h
  obtain ⟨z0, z1, rfl⟩ : ∃ z0 z1, zs = [z0, z1] := by
    match zs, hlen2 with
    | [z0, z1], _ => exact ⟨z0, z1, rfl⟩
  obtain ⟨c0, c1, rfl⟩ : ∃ c0 c1, cs = [c0, c1] := by
    match cs, hcs.trans cO with
    | [c0, c1], _ => exact ⟨c0, c1, rfl⟩
  have e0 := hg2 0 _ rfl
  have e1 := hg2 1 _ rfl
  simp [c16, cS] at e0 e1
  obtain ⟨y, f0, rfl, w0⟩ := DataW.trod_int Try.underlying38 e0
  obtain ⟨s, f1, rfl, w1⟩ := DataW.trod_string Try.underlying9 e1
  simp at f0 f1
  subst f0 f1
  obtain ⟨b, rfl⟩ := u16_of_wf w0
  refine ⟨(b, s), w1, rfl, by rw [hz]; simp, by rw [hz]; simp [datO, lb], fun W' b' sp' hd' => ⟨2, ?_⟩⟩
  rw [hz]
  simp [DataW.trod, cells2, Try.underlying40, Try.underlying38, Try.underlying9, cO, c16, cS, w0, w1]
/-- what the statement's reach says of a text in a struct, of a text in a slice, of a slice's length -/
theorem mem_all {P : Program} {e : TypeId} {l : List (DataW H)} {d : DataW H} (hd : d ∈ l) {n : Nat} (hn : n ∈ d.weights P e) : n ∈ DataW.weightsAll P e l := by
  induction l with
  | nil => cases hd
  | cons x r ih =>
    simp only [DataW.weightsAll, List.mem_append]
    rcases List.mem_cons.1 hd with rfl | h
    · exact Or.inl hn
    · exact Or.inr (ih h)
theorem bytesO : Try.prog.bytesOf 40 = 24 := by kernel_rfl
theorem reach_len {ts : List TypeId} {ds : List (DataW H)} (h : (DataW.weightsEach Try.prog ts ds).all (· ≤ reachBytes) = true) {j : Nat} (ht : ts[j]? = some 22) {els spare : List (DataW H)} (hd : ds[j]? = some (.slice els spare)) : els.length * 24 ≤ 140737488351232 := by
  have h2 := sized_slice h ht hd Try.underlying22
  rw [bytesO] at h2
  have h3 : (els.length + spare.length) * 24 ≤ 140737488351232 := h2
  omega
set_option maxRecDepth 100000 in
theorem open_opts2 {v : Value} {d : DataW H} {p : List MemPlace}
    (hv : ∃ a n c, v = .slice a n c) (h : DataW.Trod enc Try.prog W 0 (fun _ => true) true 22 v d p) (hlt : ∀ q ∈ p, q.block < W.heap.size) :
    ∃ l : List Opt, (∀ x ∈ l, ∃ els spare, d = .slice els spare ∧ els.length = l.length) ∧ LstO v l W ∧ ∀ (W' : World) (sp : Nat → Bool), Below W.heap.size W W' → (∀ q ∈ p, sp q.block = true) → DataW.Trod enc Try.prog W' 0 sp true 22 v d p := by
  obtain ⟨l, _, h2, h3, h4⟩ := open_list2 (wd := cells2) (good := fun a => a.2.size ≤ maxLen) (dat := datO) Try.underlying22 cO (by omega) (fun _ => rfl) (fun h => open_opt h) hv h hlt
  refine ⟨l, fun x hx => (by obtain ⟨els, spare, e1, _, e2⟩ := h2 x hx; exact ⟨els, spare, e1, e2⟩), ?_, h4⟩
  rcases h3 with ⟨q, c, rfl, rfl, k1, k2⟩ | ⟨b, o, c, rfl, hb, hl, hc, hne, hx⟩
  · exact Or.inl ⟨q, c, rfl, rfl, k1, k2⟩
  · exact Or.inr ⟨b, o, c, rfl, ⟨hb, fun j x hj => ⟨hx j x hj 0 _ rfl, hx j x hj 1 _ rfl⟩⟩, hl, hne, hc⟩
set_option maxRecDepth 100000 in
theorem open_opts {v : Value} {d : DataW H} {p : List MemPlace} {r : Reach} {b0 : Nat}
    (hv : Value.okWide Try.prog W r b0 22 v) (h : DataW.Trod enc Try.prog W 0 (fun _ => true) true 22 v d p) (hlt : ∀ q ∈ p, q.block < W.heap.size) :
    ∃ l : List Opt, (∀ x ∈ l, ∃ els spare, d = .slice els spare ∧ els.length = l.length) ∧ LstO v l W ∧ ∀ (W' : World) (sp : Nat → Bool), Below W.heap.size W W' → (∀ q ∈ p, sp q.block = true) → DataW.Trod enc Try.prog W' 0 sp true 22 v d p :=
  open_opts2 (okWide_slice Try.underlying22 hv) h hlt
/-- how one of Has is read -/
def datI (x : In) : DataW H := .agg [.agg [.agg [.lit (.int .u64 (hi x.addr : Nat)), .lit (.int .u64 (lo x.addr : Nat))], .lit (.int .i64 x.bits)], .lit (.int .u32 (x.pref.toNat : Int)), .lit (.int .u32 (x.valid.toNat : Int)), .lit (.int .i64 x.code)]
set_option maxRecDepth 100000 in
set_option maxHeartbeats 1000000 in
theorem open_inner {base : Nat} {cs : List Value} {fuel : Nat} {x : DataW H × List MemPlace} {sp : Nat → Bool} {hd : Bool} (h : DataW.trod enc Try.prog W base sp hd fuel 74 cs = some x) :
    ∃ a : In, Fits a.addr ∧ cs = cellsV a ∧ x.2 = [] ∧ x.1 = datI a ∧ ∀ (W' : World) (b : Nat) (sp' : Nat → Bool) (hd' : Bool), ∃ n, DataW.trod enc Try.prog W' b sp' hd' n 74 (cellsV a) = some (x.1, []) := by
  obtain ⟨ys, k1, _, hy, hcs, hlen1, hg1⟩ := DataW.trod_struct Try.underlying74 h
  obtain ⟨c1, c2, c3, c4, c5, c6, rfl⟩ := list6 (hcs.trans cIn)
  obtain ⟨y0, y1, y2, y3, rfl⟩ := list4 (α := DataW H × List MemPlace) hlen1
  have l0 := hg1 0 _ rfl
  have l1 := hg1 1 _ rfl
  have l2 := hg1 2 _ rfl
  have l3 := hg1 3 _ rfl
  simp [cPf, cI, c32] at l0 l1 l2 l3
  obtain ⟨us, k2, _, hu, _, hlen2, hg2⟩ := DataW.trod_struct Try.underlying72 l0
  obtain ⟨u0, u1, rfl⟩ := list2' (α := DataW H × List MemPlace) hlen2
  have m0 := hg2 0 _ rfl
  have m1 := hg2 1 _ rfl
  simp [cAd, cI] at m0 m1
  obtain ⟨vs, k3, _, hv, _, hlen3, hg3⟩ := DataW.trod_struct Try.underlying70 m0
  obtain ⟨v0, v1, rfl⟩ := list2' (α := DataW H × List MemPlace) hlen3
  have n0 := hg3 0 _ rfl
  have n1 := hg3 1 _ rfl
  simp [c64] at n0 n1
  obtain ⟨xh, f2, rfl, w2⟩ := DataW.trod_int Try.underlying68 n0
  obtain ⟨xl, f3, rfl, w3⟩ := DataW.trod_int Try.underlying68 n1
  obtain ⟨bits, f4, rfl, w4⟩ := DataW.trod_int Try.underlying3 m1
  obtain ⟨p, f5, rfl, w5⟩ := DataW.trod_int Try.underlying34 l1
  obtain ⟨v, f6, rfl, w6⟩ := DataW.trod_int Try.underlying34 l2
  obtain ⟨c, f7, rfl, w7⟩ := DataW.trod_int Try.underlying3 l3
  simp at f2 f3 f4 f5 f6 f7
  subst f2 f3 f4 f5 f6 f7
  simp at hv
  subst hv
  simp at hu
  subst hu
  have bx : 0 ≤ xh ∧ xh ≤ 18446744073709551615 := by simpa [Lit.wf, IntKind.min, IntKind.max, IntKind.signed, IntKind.bits] using w2
  have bl : 0 ≤ xl ∧ xl ≤ 18446744073709551615 := by simpa [Lit.wf, IntKind.min, IntKind.max, IntKind.signed, IntKind.bits] using w3
  obtain ⟨j, rfl⟩ := Int.eq_ofNat_of_zero_le bx.1
  obtain ⟨i, rfl⟩ := Int.eq_ofNat_of_zero_le bl.1
  obtain ⟨p, rfl⟩ := u32_of_wf w5
  obtain ⟨v, rfl⟩ := u32_of_wf w6
  have e1 : cellsV ⟨j * 18446744073709551616 + i, bits, p, v, c⟩ = [.int .u64 (j : Int), .int .u64 (i : Int), .int .i64 bits, .int .u32 (p.toNat : Int), .int .u32 (v.toNat : Int), .int .i64 c] := by
    show [Value.int .u64 (hi (j * 18446744073709551616 + i) : Nat), .int .u64 (lo (j * 18446744073709551616 + i) : Nat), .int .i64 bits, .int .u32 (p.toNat : Int), .int .u32 (v.toNat : Int), .int .i64 c] = _
    simp only [hi_mk (show i < 18446744073709551616 by omega), lo_mk (show i < 18446744073709551616 by omega)]
  have e2 : datI (H := H) ⟨j * 18446744073709551616 + i, bits, p, v, c⟩ = .agg [.agg [.agg [.lit (.int .u64 (j : Int)), .lit (.int .u64 (i : Int))], .lit (.int .i64 bits)], .lit (.int .u32 (p.toNat : Int)), .lit (.int .u32 (v.toNat : Int)), .lit (.int .i64 c)] := by
    unfold datI
    simp only [hi_mk (show i < 18446744073709551616 by omega), lo_mk (show i < 18446744073709551616 by omega)]
  refine ⟨⟨j * 18446744073709551616 + i, bits, p, v, c⟩, fits_mk (by omega) (by omega), e1.symm, by rw [hy]; simp, by rw [e2, hy]; simp, fun W' b sp' hd' => ⟨4, ?_⟩⟩
  rw [e1, hy]
  simp [DataW.trod, Try.underlying74, Try.underlying72, Try.underlying70, Try.underlying68, Try.underlying34, Try.underlying3, cIn, cPf, cAd, c64, cI, c32, w2, w3, w4, w5, w6, w7]
set_option maxRecDepth 100000 in
theorem open_inners {v : Value} {d : DataW H} {p : List MemPlace}
    (hv : ∃ a n c, v = .slice a n c) (h : DataW.Trod enc Try.prog W 0 (fun _ => true) true 35 v d p) (hlt : ∀ q ∈ p, q.block < W.heap.size) :
    ∃ l : List In, (∀ x ∈ l, Fits x.addr) ∧ (∀ x ∈ l, ∃ els spare, d = .slice els spare ∧ els.length = l.length) ∧ LstI v l W ∧ ∀ (W' : World) (sp : Nat → Bool), Below W.heap.size W W' → (∀ q ∈ p, sp q.block = true) → DataW.Trod enc Try.prog W' 0 sp true 35 v d p := by
  obtain ⟨l, h1, h2, h3, h4⟩ := open_list2 (wd := cellsV) (good := fun a => Fits a.addr) (dat := datI) Try.underlying35 cIn (by omega) (fun _ => rfl) (fun h => open_inner h) hv h hlt
  refine ⟨l, h1, fun x hx => (by obtain ⟨els, spare, e1, _, e2⟩ := h2 x hx; exact ⟨els, spare, e1, e2⟩), ?_, h4⟩
  rcases h3 with ⟨q, c, rfl, rfl, k1, k2⟩ | ⟨b, o, c, rfl, hb, hl, hc, hne, hx⟩
  · exact Or.inl ⟨q, c, rfl, rfl, k1, k2⟩
  · refine Or.inr ⟨b, o, c, rfl, ⟨hb, fun j x hj i hi => ?_⟩, hl, hne, hc⟩
    rw [List.getElem?_eq_getElem (show i < (cellsV x).length from hi)]
    exact hx j x hj i _ (List.getElem?_eq_getElem (show i < (cellsV x).length from hi))
set_option maxRecDepth 100000 in
set_option maxHeartbeats 2000000 in
theorem open_ia {v : Value} {d : DataW H} {p : List MemPlace} {r : Reach} {b0 : Nat}
    (hv : Value.okWide Try.prog W r b0 37 v) (h : DataW.Trod enc Try.prog W 0 (fun _ => true) true 37 v d p) (hlt : ∀ q ∈ p, q.block < W.heap.size) :
    ∃ (a : IA) (u : Value), FitA a ∧ v = AV a u ∧ LstI u a.has W ∧ (∃ parts du, d = .agg parts ∧ parts[4]? = some du ∧ ∀ x ∈ a.has, ∃ els spare, du = .slice els spare ∧ els.length = a.has.length) ∧
      ∀ (W' : World) (sp : Nat → Bool), Below W.heap.size W W' → (∀ q ∈ p, sp q.block = true) → DataW.Trod enc Try.prog W' 0 sp true 37 v d p := by
  obtain ⟨cs, rfl, hsz⟩ := okWide_struct Try.underlying37 hv
  obtain ⟨fuel, hf⟩ := h
  obtain ⟨cs⟩ := cs
  obtain ⟨zs, k, _, hx, hcs, hlen, hg⟩ := DataW.trod_struct Try.underlying37 hf
  obtain ⟨z0, z1, z2, z3, z4, z5, rfl⟩ := list6 (α := DataW H × List MemPlace) hlen
  have hcs : cs.length = 6 := hcs.trans cIA
  obtain ⟨c0, c1, c2, c3, c4, c5, rfl⟩ := list6 hcs
  have g0 := hg 0 _ rfl
  have g1 := hg 1 _ rfl
  have g2 := hg 2 _ rfl
  have g3 := hg 3 _ rfl
  have g4 := hg 4 _ rfl
  have g5 := hg 5 _ rfl
  simp [cI, c32, cLs, Value.cells] at g0 g1 g2 g3 g4 g5
  obtain ⟨k0, f0, rfl, w0⟩ := DataW.trod_int Try.underlying3 g0
  obtain ⟨y1, f1, rfl, w1⟩ := DataW.trod_int Try.underlying34 g1
  obtain ⟨y2, f2, rfl, w2⟩ := DataW.trod_int Try.underlying34 g2
  obtain ⟨y3, f3, rfl, w3⟩ := DataW.trod_int Try.underlying34 g3
  obtain ⟨k5, f5, rfl, w5⟩ := DataW.trod_int Try.underlying3 g5
  simp at f0 f1 f2 f3 f5
  subst f0 f1 f2 f3 f5
  obtain ⟨x1, rfl⟩ := u32_of_wf w1
  obtain ⟨x2, rfl⟩ := u32_of_wf w2
  obtain ⟨x3, rfl⟩ := u32_of_wf w3
  obtain ⟨aa, ll, cc, rfl⟩ : ∃ aa ll cc, c4 = .slice aa ll cc := by
    rcases Go.Deep.open_slice Try.underlying35 g4 with ⟨hc2, _⟩ | ⟨a2, l2, c2, _, _, _, _, hc2, _⟩
    · exact ⟨none, 0, 0, by simpa using hc2⟩
    · exact ⟨some a2, l2, c2, by simpa using hc2⟩
  simp at hx
  obtain ⟨hd, hp⟩ := hx
  subst hp
  obtain ⟨l, h0, h1, h2, h3⟩ := open_inners (v := .slice aa ll cc) (d := z4.1) (p := z4.2) ⟨aa, ll, cc, rfl⟩ ⟨k, by simpa [Value.cells] using g4⟩ hlt
  refine ⟨⟨k0, x1, x2, x3, l, k5⟩, .slice aa ll cc, h0, rfl, h2, ⟨_, z4.1, hd, rfl, h1⟩, fun W' sp hb hsp => ?_⟩
  obtain ⟨n, hn⟩ := h3 W' sp hb hsp
  cases n with
  | zero => simp [DataW.trod] at hn
  | succ n =>
    refine ⟨n + 2, ?_⟩
    have hn : DataW.trod enc Try.prog W' 0 sp true (n + 1) 35 [.slice aa ll cc] = some (z4.1, z4.2) := by simpa [Value.cells] using hn
    have I64' := fun (b : Int) (w : (Lit.int .i64 b).wf = true) => trod_int_mk (enc := enc) (P := Try.prog) (w := W') (base := 0) (spare := sp) (held := true) n Try.underlying3 w
    have I32 := fun (b : UInt32) (w : (Lit.int .u32 (b.toNat : Int)).wf = true) => trod_int_mk (enc := enc) (P := Try.prog) (w := W') (base := 0) (spare := sp) (held := true) n Try.underlying34 w
    have := trod_struct_mk (enc := enc) (P := Try.prog) (w := W') (base := 0) (spare := sp) (held := true) (n := n + 1) (t := 37) (cs := (AV ⟨k0, x1, x2, x3, l, k5⟩ (.slice aa ll cc)).cells.toList)
      (xs := [(.lit (.int .i64 k0), []), (.lit (.int .u32 (x1.toNat : Int)), []), (.lit (.int .u32 (x2.toNat : Int)), []), (.lit (.int .u32 (x3.toNat : Int)), []), z4, (.lit (.int .i64 k5), [])])
      Try.underlying37 (by rw [cIA]; rfl) (by simp [cI, c32, cLs, Value.cells, I64' _ w0, I32 _ w1, I32 _ w2, I32 _ w3, I64' _ w5, hn])
    rw [hd]
    simpa using this
theorem bytesI : Try.prog.bytesOf 74 = 40 := by kernel_rfl
/-- what the statement's reach says of an identity association's row -/
theorem reach_ia {ts : List TypeId} {ds : List (DataW H)} (h : (DataW.weightsEach Try.prog ts ds).all (· ≤ reachBytes) = true) {j : Nat} (ht : ts[j]? = some 37) {parts els spare : List (DataW H)} (hd : ds[j]? = some (.agg parts)) (hp : parts[4]? = some (.slice els spare)) : els.length * 40 ≤ 140737488351232 := by
  have := List.all_eq_true.1 h _ (DataW.weights_mem_each ht hd ((els.length + spare.length) * 40) (by
    simp only [DataW.weights, Try.underlying37]
    refine DataW.weights_mem_each (j := 4) (t := 35) rfl hp _ ?_
    simp [DataW.weights, Try.underlying35, bytesI]))
  have h2 : (els.length + spare.length) * 40 ≤ reachBytes := by simpa using this
  have h3 : (els.length + spare.length) * 40 ≤ 140737488351232 := h2
  omega
set_option maxRecDepth 100000 in
/-- an option that is handed in -/
theorem open_opt1 {v : Value} {d : DataW H} {p : List MemPlace} {r : Reach} {b0 : Nat}
    (hv : Value.okWide Try.prog W r b0 40 v) (h : DataW.Trod enc Try.prog W 0 (fun _ => true) true 40 v d p) :
    ∃ o : Opt, o.2.size ≤ maxLen ∧ v = OV o ∧ p = [] ∧ ∀ (W' : World) (sp : Nat → Bool), DataW.Trod enc Try.prog W' 0 sp true 40 v d [] := by
  obtain ⟨cs, rfl, hsz⟩ := okWide_struct Try.underlying40 hv
  obtain ⟨fuel, hf⟩ := h
  obtain ⟨cs⟩ := cs
  obtain ⟨o, h1, h2, h3, _, h4⟩ := open_opt hf
  have h2 : cs = cells2 o := by simpa [Value.cells] using h2
  subst h2
  refine ⟨o, h1, rfl, h3, fun W' sp => ?_⟩
  obtain ⟨n, hn⟩ := h4 W' 0 sp true
  exact ⟨n, hn⟩
end
end Go.Proofs.Ytcpldojgmboipaa
