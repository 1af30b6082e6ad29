/-
  How slices of options, strings and ints are read, and what a call leaves. Condition: the places that were read lie in old memory.
-/
import Derived.Test.YtmoklodaeicpgaaRows
import Derived.Test.YtmoklodaeicpgaaOpS
import Derived.ProofKit
import Derived.Lib.SmallJoins
import Derived.Below
import Derived.ChangeSame
import Derived.SizedLaws
import Derived.Deep.Slices
namespace Go.Proofs.Ytmoklodaeicpgaa
open Go.ChangeShapes Go.WideShapes Go.ChangeAt Go.RowKit Go.Joins

theorem rowOwn : ownKnob Try.prog.godebug = none := by kernel_rfl
section
variable {H : Type} {enc : TypeId × Value → H} {P : Program}
set_option maxRecDepth 100000 in
theorem post_below {f : Func} {s : ChangeSpec} {apart fresh handsOn : Bool} {W W' : World} {args : Array Value} {v : Value} {ds gs : List (DataW H)} {before pa pv : List MemPlace}
    (hW : DataW.Whole enc P f.params.toList s.vars apart W args.toList ds gs before)
    (hres : ∀ (b : Nat) (sp : Nat → Bool) (hd : Bool), DataW.TrodAll enc P W' b sp hd f.resultTypes.toList (v.resultList f.resultTypes.size) (s.fn H (ds ++ gs)).results [])
    (hargs : ∀ sp : Nat → Bool, (∀ p ∈ before, sp p.block = true) → DataW.TrodAll enc P W' 0 sp true f.params.toList args.toList (s.fn H (ds ++ gs)).args pa)
    (hvars : ∀ sp : Nat → Bool, (∀ p ∈ before, sp p.block = true) → DataW.TrodVars enc P W' sp s.vars (s.fn H (ds ++ gs)).vars pv)
    (hps : before = pa ++ pv) (hb : Below W.heap.size W W') :
    s.post enc P f apart fresh handsOn false W args v W' := by
  have hlt : ∀ p ∈ before, p.block < W.heap.size := fun p hp => hW.lt p hp
  have hold : ∀ p ∈ before, (fun b => decide (b < W.heap.size)) p.block = true := fun p hp => by simpa using hlt p hp
  refine ⟨ds, gs, before, [], pa, pv, hW, hres _ _ _, hargs _ hold, hvars _ hold, World.keptBut_mono (fun p hp => ⟨hp, ?_⟩) (hb.frame (· ∈ before)), fun h => by cases h⟩
  rw [hps, List.mem_append] at hp
  exact Or.inr hp
end
theorem block_add (a : Go.Addr) (i : Nat) : (a.add i).block = a.block := by unfold Go.Addr.add; split <;> rfl
/-- a slice value that reads as a list -/
def LstG {α : Type} (wd : α → List Value) (C : Nat) (v : Value) (l : List α) (W : World) : Prop :=
  (∃ p c, v = .slice p 0 c ∧ l = [] ∧ (p = none → c = 0) ∧ c ≤ maxLen) ∨ ∃ b o c, v = .slice (some ⟨b, o, none⟩) l.length c ∧ b < W.heap.size ∧ l.length ≤ c ∧ c ≤ maxLen ∧ l ≠ [] ∧ ∀ (j : Nat) (x : α), l[j]? = some x → ∀ (i : Nat) (u : Value), (wd x)[i]? = some u → W.cell? ⟨b, o + j * C + i, none⟩ = some u
section
variable {H : Type} {enc : TypeId × Value → H} {W : World} {α : Type} {wd : α → List Value} {good : α → Prop} {dat : α → DataW H} {t e : TypeId} {C : Nat}
set_option maxRecDepth 100000 in
theorem open_list2 (ht : Try.prog.underlying t = some (.slice e)) (hC : Try.prog.cellsOf e = C) (hC0 : 0 < C) (hw : ∀ x, (wd x).length = C)
    (hel : ∀ {fuel : Nat} {cs : List Value} {x : DataW H × List MemPlace}, DataW.trod enc Try.prog W 0 (fun _ => true) true fuel e cs = some x →
      ∃ a : α, good a ∧ cs = wd a ∧ x.2 = [] ∧ x.1 = dat a ∧ ∀ (W' : World) (b : Nat) (sp' : Nat → Bool) (hd' : Bool), ∃ n, DataW.trod enc Try.prog W' b sp' hd' n e (wd a) = some (x.1, []))
    {v : Value} {d : DataW H} {p : List MemPlace}
    (hv : ∃ a n c, v = .slice a n c) (h : DataW.Trod enc Try.prog W 0 (fun _ => true) true t v d p) (hlt : ∀ q ∈ p, q.block < W.heap.size) :
    ∃ l : List α, (∀ x ∈ l, good x) ∧ (∀ x ∈ l, ∃ els spare, d = .slice els spare ∧ dat x ∈ els ∧ els.length = l.length) ∧ LstG wd C v l W ∧ ∀ (W' : World) (sp : Nat → Bool), Below W.heap.size W W' → (∀ q ∈ p, sp q.block = true) → DataW.Trod enc Try.prog W' 0 sp true t v d p := by
  obtain ⟨a0, len0, cap0, rfl⟩ := hv
  obtain ⟨fuel, hf⟩ := h
  rcases Go.Deep.open_slice ht hf with ⟨hc, hx⟩ | ⟨a, len, cap, m, n, D, Pl, hc, hb, hl, hm, hmm, hx, hcell⟩
  · simp [Value.cells] at hc
    obtain ⟨rfl, rfl, rfl⟩ := hc
    simp at hx
    obtain ⟨rfl, rfl⟩ := hx
    exact ⟨[], (fun x hx => by cases hx), (fun x hx => by cases hx), Or.inl ⟨none, 0, rfl, rfl, fun _ => rfl, Nat.zero_le _⟩, fun W' sp _ _ => ⟨1, by simp [DataW.trod, Value.cells, ht]⟩⟩
  · simp [Value.cells] at hc
    obtain ⟨rfl, rfl, rfl⟩ := hc
    simp only [if_true] at hmm
    subst hmm
    rw [hC] at hx hcell
    have hR0 : ∀ i, i < m → ∃ r : α, (good r ∧ D i = dat r) ∧ W.cells? 0 (a.add (i * C)) C = some (wd r) ∧ Pl i = [] ∧ ∀ (W' : World) (b : Nat) (sp' : Nat → Bool) (hd' : Bool), ∃ n, DataW.trod enc Try.prog W' b sp' hd' n e (wd r) = some (D i, []) := fun i hi => by
      obtain ⟨cs', h1, h2⟩ := hcell i hi
      obtain ⟨x, hx, hcs, hp, hdt, hall⟩ := hel h2
      subst hcs
      exact ⟨x, ⟨hx, hdt⟩, h1, hp, hall⟩
    obtain ⟨L, hLl, hL⟩ : ∃ L : List α, L.length = m ∧ ∀ i (hi : i < L.length), (good L[i] ∧ D i = dat L[i]) ∧ W.cells? 0 (a.add (i * C)) C = some (wd L[i]) ∧ Pl i = [] ∧ ∀ (W' : World) (b : Nat) (sp' : Nat → Bool) (hd' : Bool), ∃ n, DataW.trod enc Try.prog W' b sp' hd' n e (wd L[i]) = some (D i, []) := by
      clear hx hcell hf
      have : ∀ k, k ≤ m → ∃ L : List α, L.length = k ∧ ∀ i (hi : i < L.length), (good L[i] ∧ D i = dat L[i]) ∧ W.cells? 0 (a.add (i * C)) C = some (wd L[i]) ∧ Pl i = [] ∧ ∀ (W' : World) (b : Nat) (sp' : Nat → Bool) (hd' : Bool), ∃ n, DataW.trod enc Try.prog W' b sp' hd' n e (wd L[i]) = some (D i, []) := fun k => by
        induction k with
        | zero => exact fun _ => ⟨[], rfl, fun i hi => absurd hi (Nat.not_lt_zero _)⟩
        | succ k ih =>
          intro hk
          obtain ⟨L, h1, h2⟩ := ih (by omega)
          obtain ⟨r, hr⟩ := hR0 k (by omega)
          refine ⟨L ++ [r], by simp [h1], fun i hi => ?_⟩
          by_cases e : i < L.length
          · rw [List.getElem_append_left e]
            exact h2 i e
          · have e2 : i = L.length := by simp at hi; omega
            subst e2
            rw [List.getElem_append_right (Nat.le_refl _)]
            simp only [Nat.sub_self, List.getElem_cons_zero, h1]
            exact hr
      exact this m (Nat.le_refl _)
    simp only [Prod.mk.injEq] at hx
    obtain ⟨hxd, hxp⟩ := hx
    have hmem : ∀ j, j < m * C → MemPlace.cell a.block (a.off + j) ∈ p := fun j hj => by
      rw [hxp]
      exact List.mem_append_left _ (MemPlace.mem_row.2 ⟨j, hj, rfl⟩)
    have hpos : ∀ k, 0 < k → 0 < k * C := fun k hk => Nat.mul_pos hk hC0
    refine ⟨L.take len0, ?_, ?_, ?_, ?_⟩
    · intro x hx
      obtain ⟨i, hi, rfl⟩ := List.mem_iff_getElem.1 (List.mem_of_mem_take hx)
      exact (hL i hi).1.1
    · intro x hx
      obtain ⟨i, hi, rfl⟩ := List.mem_iff_getElem.1 hx
      have hi2 : i < len0 := by rw [List.length_take] at hi; omega
      refine ⟨_, _, hxd, ?_, ?_⟩
      · rw [List.getElem_take, ← (hL i (by omega)).1.2]
        exact List.mem_map.2 ⟨i, List.mem_range.2 hi2, rfl⟩
      · rw [List.length_map, List.length_range, List.length_take]; omega
    · by_cases h0 : len0 = 0
      · subst h0
        exact Or.inl ⟨some a, m, rfl, by simp, fun e => (by cases e), hm⟩
      · have c0 := (World.cells?_some (hL 0 (by omega)).2.1).2.2 0 hC0
        have s0 : a.spot = none := by
          have := World.cell?_spot (c0.trans (List.getElem?_eq_getElem (by rw [hw]; exact hC0)))
          simpa [Go.Addr.add] using this
        obtain ⟨b, o, s⟩ := a
        simp only at s0
        subst s0
        have hll : (L.take len0).length = len0 := by rw [List.length_take]; omega
        refine Or.inr ⟨b, o, m, by rw [hll], hlt _ (hmem 0 (hpos m (by omega))), by rw [hll]; exact hl, hm, by intro e; rw [e] at hll; exact h0 hll.symm, ?_⟩
        intro j x hj i u hi
        have hjl : j < len0 := by
          have := (List.getElem?_eq_some_iff.1 hj).1
          rwa [hll] at this
        have hjL : j < L.length := by omega
        have hx : x = L[j] := by
          rw [List.getElem?_take_of_lt hjl, List.getElem?_eq_getElem hjL] at hj
          exact (Option.some.inj hj).symm
        subst hx
        have hil : i < C := by
          have := (List.getElem?_eq_some_iff.1 hi).1
          rwa [hw] at this
        have hc := (World.cells?_some (hL j hjL).2.1).2.2 i hil
        rw [hi] at hc
        simp only [Go.WideShapes.add_plain] at hc
        exact hc
    · intro W' sp hb' hsp
      have hread : ∀ i, i < m → ∃ cs n, W'.cells? 0 (a.add (i * Try.prog.cellsOf e)) (Try.prog.cellsOf e) = some cs ∧ DataW.trod enc Try.prog W' 0 sp true n e cs = some (D i, Pl i) := by
        intro i hi
        obtain ⟨_, h1, h2, h3⟩ := hL i (by omega)
        obtain ⟨n, hn⟩ := h3 W' 0 sp true
        rw [hC, h2]
        refine ⟨wd (L[i]'(by omega)), n, World.cells?_carry h1 (fun q hq => ?_), hn⟩
        obtain ⟨j, hj, rfl⟩ := MemPlace.mem_row.1 hq
        refine hb'.same ?_
        show (a.add (i * C)).block < _
        rw [block_add]
        exact hlt _ (hmem 0 (hpos m (by omega)))
      rw [hxd, hxp]
      cases hs : sp a.block with
      | true =>
        have := Go.Deep.shut_slice_whole (enc := enc) (w := W') (held := true) (base := 0) (spare := sp) (a := a) ht hb hl hm hs D Pl hread
        rw [hC] at this
        exact this
      | false =>
        have hm0 : m = 0 := by
          rcases Nat.eq_zero_or_pos m with h | h
          · exact h
          · have := hsp _ (hmem 0 (hpos m h))
            have e : sp a.block = true := this
            rw [hs] at e
            cases e
        subst hm0
        have hl0 : len0 = 0 := by omega
        subst hl0
        have := Go.Deep.shut_slice (enc := enc) (w := W') (held := true) (base := 0) (spare := sp) (a := a) ht hb hl hm hs D Pl (fun i hi => by omega)
        rw [hC] at this
        exact this
end
theorem cO : Try.prog.cellsOf 47 = 2 := by kernel_rfl
theorem cB : Try.prog.cellsOf 5 = 1 := by kernel_rfl
theorem cS : Try.prog.cellsOf 9 = 1 := by kernel_rfl
theorem cI : Try.prog.cellsOf 3 = 1 := by kernel_rfl
theorem byte_of_wf {x : Int} (w : (Lit.int .u8 x).wf = true) : ∃ b : UInt8, x = (b.toNat : Int) := by
  have hb := bounds_u8 w
  refine ⟨UInt8.ofNat x.toNat, ?_⟩
  rw [UInt8.toNat_ofNat']
  omega
section
variable {H : Type} {enc : TypeId × Value → H} {W : World}
def datO (x : Opt) : DataW H := .agg [.lit (.int .u8 (x.1.toNat : Int)), .lit (.string (lb x.2))]
set_option maxRecDepth 100000 in
theorem open_opt {base : Nat} {cs : List Value} {fuel : Nat} {x : DataW H × List MemPlace} {sp : Nat → Bool} {hd : Bool} (h : DataW.trod enc Try.prog W base sp hd fuel 47 cs = some x) :
    ∃ a : Opt, a.2.size ≤ maxLen ∧ cs = cells2 a ∧ x.2 = [] ∧ x.1 = datO a ∧ ∀ (W' : World) (b : Nat) (sp' : Nat → Bool) (hd' : Bool), ∃ n, DataW.trod enc Try.prog W' b sp' hd' n 47 (cells2 a) = some (x.1, []) := by
  obtain ⟨zs, k2, _, hz, hcs, hlen2, hg2⟩ := DataW.trod_struct Try.underlying47 h
  obtain ⟨z0, z1, rfl⟩ : ∃ z0 z1, zs = [z0, z1] := by
    match zs, hlen2 with
    | [z0, z1], _ => exact ⟨z0, z1, rfl⟩
  obtain ⟨c0, c1, rfl⟩ : ∃ c0 c1, cs = [c0, c1] := by
    match cs, hcs.trans cO with
    | [c0, c1], _ => exact ⟨c0, c1, rfl⟩
  have e0 := hg2 0 _ rfl
  have e1 := hg2 1 _ rfl
  simp [cB, cS] at e0 e1
  obtain ⟨y, f0, rfl, w0⟩ := DataW.trod_int Try.underlying5 e0
  obtain ⟨s, f1, rfl, w1⟩ := DataW.trod_string Try.underlying9 e1
  simp at f0 f1
  subst f0 f1
  obtain ⟨b, rfl⟩ := byte_of_wf w0
  refine ⟨(b, s), w1, rfl, by rw [hz]; simp, by rw [hz]; simp [datO, lb], fun W' b' sp' hd' => ⟨2, ?_⟩⟩
  rw [hz]
  simp [DataW.trod, cells2, Try.underlying47, Try.underlying5, Try.underlying9, cO, cB, cS, w0, w1]
/-- what the statement's reach says of a text in a struct, of a text in a slice, of a slice's length -/
theorem mem_all {P : Program} {e : TypeId} {l : List (DataW H)} {d : DataW H} (hd : d ∈ l) {n : Nat} (hn : n ∈ d.weights P e) : n ∈ DataW.weightsAll P e l := by
  induction l with
  | nil => cases hd
  | cons x r ih =>
    simp only [DataW.weightsAll, List.mem_append]
    rcases List.mem_cons.1 hd with rfl | h
    · exact Or.inl hn
    · exact Or.inr (ih h)
theorem reach_strs {ts : List TypeId} {ds : List (DataW H)} (h : (DataW.weightsEach Try.prog ts ds).all (· ≤ reachBytes) = true) {j : Nat} (ht : ts[j]? = some 49) {els spare : List (DataW H)} (hd : ds[j]? = some (.slice els spare)) {s : ByteArray} (hx : DataW.lit (.string (lb s)) ∈ els) : s.size ≤ 140737488351232 := by
  have := List.all_eq_true.1 h _ (DataW.weights_mem_each ht hd (lb s).length (by
    simp only [DataW.weights, Try.underlying49, List.mem_cons, List.mem_append]
    exact Or.inr (Or.inl (mem_all hx (by simp [DataW.weights])))))
  have h2 : (lb s).length ≤ reachBytes := by simpa using this
  rw [lb_len] at h2
  exact h2
theorem bytesO : Try.prog.bytesOf 47 = 24 := by kernel_rfl
theorem reach_len {ts : List TypeId} {ds : List (DataW H)} (h : (DataW.weightsEach Try.prog ts ds).all (· ≤ reachBytes) = true) {j : Nat} (ht : ts[j]? = some 24) {els spare : List (DataW H)} (hd : ds[j]? = some (.slice els spare)) : els.length * 24 ≤ 140737488351232 := by
  have h2 := sized_slice h ht hd Try.underlying24
  rw [bytesO] at h2
  have h3 : (els.length + spare.length) * 24 ≤ 140737488351232 := h2
  omega
set_option maxRecDepth 100000 in
theorem open_opts2 {v : Value} {d : DataW H} {p : List MemPlace}
    (hv : ∃ a n c, v = .slice a n c) (h : DataW.Trod enc Try.prog W 0 (fun _ => true) true 24 v d p) (hlt : ∀ q ∈ p, q.block < W.heap.size) :
    ∃ l : List Opt, (∀ x ∈ l, ∃ els spare, d = .slice els spare ∧ els.length = l.length) ∧ LstO v l W ∧ ∀ (W' : World) (sp : Nat → Bool), Below W.heap.size W W' → (∀ q ∈ p, sp q.block = true) → DataW.Trod enc Try.prog W' 0 sp true 24 v d p := by
  obtain ⟨l, _, h2, h3, h4⟩ := open_list2 (wd := cells2) (good := fun a => a.2.size ≤ maxLen) (dat := datO) Try.underlying24 cO (by omega) (fun _ => rfl) (fun h => open_opt h) hv h hlt
  refine ⟨l, fun x hx => (by obtain ⟨els, spare, e1, _, e2⟩ := h2 x hx; exact ⟨els, spare, e1, e2⟩), ?_, h4⟩
  rcases h3 with ⟨q, c, rfl, rfl, k1, k2⟩ | ⟨b, o, c, rfl, hb, hl, hc, hne, hx⟩
  · exact Or.inl ⟨q, c, rfl, rfl, k1, k2⟩
  · exact Or.inr ⟨b, o, c, rfl, ⟨hb, fun j x hj => ⟨hx j x hj 0 _ rfl, hx j x hj 1 _ rfl⟩⟩, hl, hne, hc⟩
set_option maxRecDepth 100000 in
theorem open_opts {v : Value} {d : DataW H} {p : List MemPlace} {r : Reach} {b0 : Nat}
    (hv : Value.okWide Try.prog W r b0 24 v) (h : DataW.Trod enc Try.prog W 0 (fun _ => true) true 24 v d p) (hlt : ∀ q ∈ p, q.block < W.heap.size) :
    ∃ l : List Opt, (∀ x ∈ l, ∃ els spare, d = .slice els spare ∧ els.length = l.length) ∧ LstO v l W ∧ ∀ (W' : World) (sp : Nat → Bool), Below W.heap.size W W' → (∀ q ∈ p, sp q.block = true) → DataW.Trod enc Try.prog W' 0 sp true 24 v d p :=
  open_opts2 (okWide_slice Try.underlying24 hv) h hlt
set_option maxRecDepth 100000 in
theorem open_str {base : Nat} {cs : List Value} {fuel : Nat} {x : DataW H × List MemPlace} {sp : Nat → Bool} {hd : Bool} (h : DataW.trod enc Try.prog W base sp hd fuel 9 cs = some x) :
    ∃ s : ByteArray, s.size ≤ maxLen ∧ cs = [.string s] ∧ x.2 = [] ∧ x.1 = .lit (.string (lb s)) ∧ ∀ (W' : World) (b : Nat) (sp' : Nat → Bool) (hd' : Bool), ∃ n, DataW.trod enc Try.prog W' b sp' hd' n 9 [.string s] = some (x.1, []) := by
  obtain ⟨s, f, rfl, w⟩ := DataW.trod_string Try.underlying9 h
  subst f
  exact ⟨s, w, rfl, rfl, rfl, fun W' b sp' hd' => ⟨1, by simp [DataW.trod, Try.underlying9, w]⟩⟩
set_option maxRecDepth 100000 in
theorem open_strs {v : Value} {d : DataW H} {p : List MemPlace} {r : Reach} {b0 : Nat}
    (hv : Value.okWide Try.prog W r b0 49 v) (h : DataW.Trod enc Try.prog W 0 (fun _ => true) true 49 v d p) (hlt : ∀ q ∈ p, q.block < W.heap.size) :
    ∃ l : List ByteArray, l.length ≤ 9223372036854775807 ∧ (∀ s ∈ l, ∃ els spare, d = .slice els spare ∧ DataW.lit (.string (lb s)) ∈ els) ∧ LstS v l W ∧ ∀ (W' : World) (sp : Nat → Bool), Below W.heap.size W W' → (∀ q ∈ p, sp q.block = true) → DataW.Trod enc Try.prog W' 0 sp true 49 v d p := by
  obtain ⟨l, _, h2, h3, h4⟩ := open_list2 (wd := fun s : ByteArray => [.string s]) (good := fun s => s.size ≤ maxLen) (dat := fun s => .lit (.string (lb s))) Try.underlying49 cS (by omega) (fun _ => rfl) (fun h => open_str h) (okWide_slice Try.underlying49 hv) h hlt
  refine ⟨l, ?_, fun s hs => (by obtain ⟨els, spare, e1, e2, _⟩ := h2 s hs; exact ⟨els, spare, e1, e2⟩), ?_, h4⟩
  · rcases h3 with ⟨_, _, _, rfl, _⟩ | ⟨_, _, c, _, _, hl, hc, _⟩
    · simp
    · unfold maxLen at hc; omega
  · rcases h3 with ⟨q, c, rfl, rfl, _⟩ | ⟨b, o, c, rfl, hb, hl, hc, hne, hx⟩
    · exact Or.inl ⟨q, c, rfl, rfl⟩
    · refine Or.inr ⟨b, o, c, rfl, hb, fun j s hj => ?_⟩
      have := hx j s hj 0 _ rfl
      simpa using this
/-- a slice of ints that is read -/
def LstI (v : Value) (l : List Int) (W : World) : Prop := (∃ p c, v = .slice p 0 c ∧ l = []) ∨ ∃ b o c, v = .slice (some ⟨b, o, none⟩) l.length c ∧ b < W.heap.size ∧ ∀ (j : Nat) (x : Int), l[j]? = some x → W.cell? ⟨b, o + j, none⟩ = some (.int .i64 x)
set_option maxRecDepth 100000 in
theorem open_num {base : Nat} {cs : List Value} {fuel : Nat} {x : DataW H × List MemPlace} {sp : Nat → Bool} {hd : Bool} (h : DataW.trod enc Try.prog W base sp hd fuel 3 cs = some x) :
    ∃ a : Int, I64 a ∧ cs = [.int .i64 a] ∧ x.2 = [] ∧ x.1 = .lit (.int .i64 a) ∧ ∀ (W' : World) (b : Nat) (sp' : Nat → Bool) (hd' : Bool), ∃ n, DataW.trod enc Try.prog W' b sp' hd' n 3 [.int .i64 a] = some (x.1, []) := by
  obtain ⟨z, f, rfl, w⟩ := DataW.trod_int Try.underlying3 h
  subst f
  exact ⟨z, by unfold I64; simpa [Lit.wf, IntKind.min, IntKind.max, IntKind.signed, IntKind.bits] using w, rfl, rfl, rfl, fun W' b sp' hd' => ⟨1, by simp [DataW.trod, Try.underlying3, w]⟩⟩
end
end Go.Proofs.Ytmoklodaeicpgaa
