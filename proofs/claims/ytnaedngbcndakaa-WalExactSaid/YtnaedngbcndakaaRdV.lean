/-
  How an argument that is a slice of pieces or of operations, and one operation, read as data. Condition: the places that were read lie in old memory.
-/
import Derived.Test.YtnaedngbcndakaaFilRow
import Derived.Deep.Slices
namespace Go.Proofs.Ytnaedngbcndakaa
open Go.ChangeShapes Go.WideShapes Go.ChangeAt Go.RowKit Go.Joins

/-- a slice value that reads as a list -/
def LstG {α : Type} (wd : α → List Value) (C : Nat) (v : Value) (l : List α) (W : World) : Prop :=
  (∃ p c, v = .slice p 0 c ∧ l = []) ∨ ∃ b o c, v = .slice (some ⟨b, o, none⟩) l.length c ∧ b < W.heap.size ∧ l.length ≤ maxLen ∧ ∀ (j : Nat) (x : α), l[j]? = some x → ∀ (i : Nat) (u : Value), (wd x)[i]? = some u → W.cell? ⟨b, o + j * C + i, none⟩ = some u
theorem LstG.no {α : Type} {wd : α → List Value} {C : Nat} {v : Value} {l : List α} {W W2 : World} (h : LstG wd C v l W) (F : Fr No W W2) : LstG wd C v l W2 := by
  rcases h with h | ⟨b, o, c, h1, h2, h3, h4⟩
  · exact Or.inl h
  · refine Or.inr ⟨b, o, c, h1, Nat.lt_of_lt_of_le h2 F.size, h3, fun j x hj i u hi => ?_⟩
    rw [World.cell?_of_block (a := ⟨b, o + j * C + i, none⟩) (F.block b h2 (fun e => e))]
    exact h4 j x hj i u hi
theorem block_add (a : Go.Addr) (i : Nat) : (a.add i).block = a.block := by unfold Go.Addr.add; split <;> rfl

section
variable {H : Type} {enc : TypeId × Value → H} {W : World} {α : Type} {wd : α → List Value} {good : α → Prop} {dat : α → DataW H} {t e : TypeId} {C : Nat}
theorem open_list (ht : Try.prog.underlying t = some (.slice e)) (hC : Try.prog.cellsOf e = C) (hC0 : 0 < C) (hw : ∀ x, (wd x).length = C)
    (hel : ∀ {fuel : Nat} {cs : List Value} {x : DataW H × List MemPlace}, DataW.trod enc Try.prog W 0 (fun _ => true) true fuel e cs = some x →
      ∃ a : α, good a ∧ cs = wd a ∧ x.2 = [] ∧ x.1 = dat a ∧ ∀ (W' : World) (b : Nat) (sp' : Nat → Bool) (hd' : Bool), ∃ n, DataW.trod enc Try.prog W' b sp' hd' n e (wd a) = some (x.1, []))
    {v : Value} {d : DataW H} {p : List MemPlace} {r : Reach} {b0 : Nat}
    (hv : Value.okWide Try.prog W r b0 t v) (h : DataW.Trod enc Try.prog W 0 (fun _ => true) true t v d p) (hlt : ∀ q ∈ p, q.block < W.heap.size) :
    ∃ l : List α, (∀ x ∈ l, good x) ∧ (∀ x ∈ l, ∃ els spare, d = .slice els spare ∧ dat x ∈ els) ∧ LstG wd C v l W ∧ ∀ (W' : World) (sp : Nat → Bool), Below W.heap.size W W' → (∀ q ∈ p, sp q.block = true) → DataW.Trod enc Try.prog W' 0 sp true t v d p := by
  obtain ⟨a0, len0, cap0, rfl⟩ := okWide_slice ht hv
  obtain ⟨fuel, hf⟩ := h
  rcases Go.Deep.open_slice ht hf with ⟨hc, hx⟩ | ⟨a, len, cap, m, n, D, Pl, hc, hb, hl, hm, hmm, hx, hcell⟩
  · simp [Value.cells] at hc
    obtain ⟨rfl, rfl, rfl⟩ := hc
    simp at hx
    obtain ⟨rfl, rfl⟩ := hx
    exact ⟨[], (fun x hx => by cases hx), (fun x hx => by cases hx), Or.inl ⟨none, 0, rfl, rfl⟩, fun W' sp _ _ => ⟨1, by simp [DataW.trod, Value.cells, ht]⟩⟩
  · simp [Value.cells] at hc
    obtain ⟨rfl, rfl, rfl⟩ := hc
    simp only [if_true] at hmm
    subst hmm
    rw [hC] at hx hcell
    have hR0 : ∀ i, i < m → ∃ r : α, (good r ∧ D i = dat r) ∧ W.cells? 0 (a.add (i * C)) C = some (wd r) ∧ Pl i = [] ∧ ∀ (W' : World) (b : Nat) (sp' : Nat → Bool) (hd' : Bool), ∃ n, DataW.trod enc Try.prog W' b sp' hd' n e (wd r) = some (D i, []) := fun i hi => by
      obtain ⟨cs', h1, h2⟩ := hcell i hi
      obtain ⟨x, hx, hcs, hp, hdt, hall⟩ := hel h2
      subst hcs
      exact ⟨x, ⟨hx, hdt⟩, h1, hp, hall⟩
    obtain ⟨L, hLl, hL⟩ : ∃ L : List α, L.length = m ∧ ∀ i (hi : i < L.length), (good L[i] ∧ D i = dat L[i]) ∧ W.cells? 0 (a.add (i * C)) C = some (wd L[i]) ∧ Pl i = [] ∧ ∀ (W' : World) (b : Nat) (sp' : Nat → Bool) (hd' : Bool), ∃ n, DataW.trod enc Try.prog W' b sp' hd' n e (wd L[i]) = some (D i, []) := by
      clear hx hcell hf
      have : ∀ k, k ≤ m → ∃ L : List α, L.length = k ∧ ∀ i (hi : i < L.length), (good L[i] ∧ D i = dat L[i]) ∧ W.cells? 0 (a.add (i * C)) C = some (wd L[i]) ∧ Pl i = [] ∧ ∀ (W' : World) (b : Nat) (sp' : Nat → Bool) (hd' : Bool), ∃ n, DataW.trod enc Try.prog W' b sp' hd' n e (wd L[i]) = some (D i, []) := fun k => by
        induction k with
        | zero => exact fun _ => ⟨[], rfl, fun i hi => absurd hi (Nat.not_lt_zero _)⟩
        | succ k ih =>
          intro hk
          obtain ⟨L, h1, h2⟩ := ih (by omega)
          obtain ⟨r, hr⟩ := hR0 k (by omega)
          refine ⟨L ++ [r], by simp [h1], fun i hi => ?_⟩
          by_cases e : i < L.length
          · rw [List.getElem_append_left e]
            exact h2 i e
          · have e2 : i = L.length := by simp at hi; omega
            subst e2
            rw [List.getElem_append_right (Nat.le_refl _)]
            simp only [Nat.sub_self, List.getElem_cons_zero, h1]
            exact hr
      exact this m (Nat.le_refl _)
    simp only [Prod.mk.injEq] at hx
    obtain ⟨hxd, hxp⟩ := hx
    have hmem : ∀ j, j < m * C → MemPlace.cell a.block (a.off + j) ∈ p := fun j hj => by
      rw [hxp]
      exact List.mem_append_left _ (MemPlace.mem_row.2 ⟨j, hj, rfl⟩)
    have hpos : ∀ k, 0 < k → 0 < k * C := fun k hk => Nat.mul_pos hk hC0
    refine ⟨L.take len0, ?_, ?_, ?_, ?_⟩
    · intro x hx
      obtain ⟨i, hi, rfl⟩ := List.mem_iff_getElem.1 (List.mem_of_mem_take hx)
      exact (hL i hi).1.1
    · intro x hx
      obtain ⟨i, hi, rfl⟩ := List.mem_iff_getElem.1 hx
      have hi2 : i < len0 := by rw [List.length_take] at hi; omega
      refine ⟨_, _, hxd, ?_⟩
      rw [List.getElem_take, ← (hL i (by omega)).1.2]
      exact List.mem_map.2 ⟨i, List.mem_range.2 hi2, rfl⟩
    · by_cases h0 : len0 = 0
      · subst h0
        exact Or.inl ⟨some a, m, rfl, by simp⟩
      · have c0 := (World.cells?_some (hL 0 (by omega)).2.1).2.2 0 hC0
        have s0 : a.spot = none := by
          have := World.cell?_spot (c0.trans (List.getElem?_eq_getElem (by rw [hw]; exact hC0)))
          simpa [Go.Addr.add] using this
        obtain ⟨b, o, s⟩ := a
        simp only at s0
        subst s0
        have hll : (L.take len0).length = len0 := by rw [List.length_take]; omega
        refine Or.inr ⟨b, o, m, by rw [hll], hlt _ (hmem 0 (hpos m (by omega))), by rw [hll]; exact Nat.le_trans hl hm, ?_⟩
        intro j x hj i u hi
        have hjl : j < len0 := by
          have := (List.getElem?_eq_some_iff.1 hj).1
          rwa [hll] at this
        have hjL : j < L.length := by omega
        have hx : x = L[j] := by
          rw [List.getElem?_take_of_lt hjl, List.getElem?_eq_getElem hjL] at hj
          exact (Option.some.inj hj).symm
        subst hx
        have hil : i < C := by
          have := (List.getElem?_eq_some_iff.1 hi).1
          rwa [hw] at this
        have hc := (World.cells?_some (hL j hjL).2.1).2.2 i hil
        rw [hi] at hc
        simp only [Go.WideShapes.add_plain] at hc
        exact hc
    · intro W' sp hb' hsp
      have hread : ∀ i, i < m → ∃ cs n, W'.cells? 0 (a.add (i * Try.prog.cellsOf e)) (Try.prog.cellsOf e) = some cs ∧ DataW.trod enc Try.prog W' 0 sp true n e cs = some (D i, Pl i) := by
        intro i hi
        obtain ⟨_, h1, h2, h3⟩ := hL i (by omega)
        obtain ⟨n, hn⟩ := h3 W' 0 sp true
        rw [hC, h2]
        refine ⟨wd (L[i]'(by omega)), n, World.cells?_carry h1 (fun q hq => ?_), hn⟩
        obtain ⟨j, hj, rfl⟩ := MemPlace.mem_row.1 hq
        refine hb'.same ?_
        show (a.add (i * C)).block < _
        rw [block_add]
        exact hlt _ (hmem 0 (hpos m (by omega)))
      rw [hxd, hxp]
      cases hs : sp a.block with
      | true =>
        have := Go.Deep.shut_slice_whole (enc := enc) (w := W') (held := true) (base := 0) (spare := sp) (a := a) ht hb hl hm hs D Pl hread
        rw [hC] at this
        exact this
      | false =>
        have hm0 : m = 0 := by
          rcases Nat.eq_zero_or_pos m with h | h
          · exact h
          · have := hsp _ (hmem 0 (hpos m h))
            have e : sp a.block = true := this
            rw [hs] at e
            cases e
        subst hm0
        have hl0 : len0 = 0 := by omega
        subst hl0
        have := Go.Deep.shut_slice (enc := enc) (w := W') (held := true) (base := 0) (spare := sp) (a := a) ht hb hl hm hs D Pl (fun i hi => by omega)
        rw [hC] at this
        exact this
end
/-- a piece -/
structure Pc where
  data : Nm
  sync : Bool
def wdP (x : Pc) : List Value := [St x.data, .bool x.sync]
def okP (x : Pc) : Prop := x.data.length ≤ maxLen
/-- an operation of a script -/
structure Op7 where
  kind : Int
  data : Nm
  n : Int
  keep : Int
def wdO (x : Op7) : List Value := [.int .i64 x.kind, St x.data, .int .i64 x.n, .int .i64 x.keep]
def okO (x : Op7) : Prop := I64 x.kind ∧ x.data.length ≤ maxLen ∧ I64 x.n ∧ I64 x.keep
def datP {H : Type} (x : Pc) : DataW H := .agg [.lit (.string x.data), .lit (.bool x.sync)]
def datO {H : Type} (x : Op7) : DataW H := .agg [.lit (.int .i64 x.kind), .lit (.string x.data), .lit (.int .i64 x.n), .lit (.int .i64 x.keep)]
theorem cellsP : Try.prog.cellsOf 54 = 2 := by kernel_rfl
theorem cellsO : Try.prog.cellsOf 43 = 4 := by kernel_rfl
theorem cellsS : Try.prog.cellsOf 9 = 1 := by kernel_rfl
theorem cellsI : Try.prog.cellsOf 3 = 1 := by kernel_rfl
theorem cellsB : Try.prog.cellsOf 4 = 1 := by kernel_rfl
theorem i64_of {x : Int} (wx : (Lit.int .i64 x).wf = true) : I64 x := by
  simpa [Lit.wf, IntKind.min, IntKind.max, IntKind.signed, IntKind.bits] using wx
section
variable {H : Type} {enc : TypeId × Value → H} {W : World}
set_option maxRecDepth 100000 in
theorem open_piece {base : Nat} {cs : List Value} {fuel : Nat} {x : DataW H × List MemPlace} {sp : Nat → Bool} {hd : Bool} (h : DataW.trod enc Try.prog W base sp hd fuel 54 cs = some x) :
    ∃ a : Pc, okP a ∧ cs = wdP a ∧ x.2 = [] ∧ x.1 = datP a ∧ ∀ (W' : World) (b : Nat) (sp' : Nat → Bool) (hd' : Bool), ∃ n, DataW.trod enc Try.prog W' b sp' hd' n 54 (wdP a) = some (x.1, []) := by
  obtain ⟨zs, k, _, hx, hcs, hlen, hg⟩ := DataW.trod_struct Try.underlying54 h
  obtain ⟨z0, z1, rfl⟩ : ∃ z0 z1, zs = [z0, z1] := by
    match zs, hlen with
    | [z0, z1], _ => exact ⟨z0, z1, rfl⟩
  obtain ⟨c0, c1, rfl⟩ : ∃ c0 c1, cs = [c0, c1] := by
    have hc2 : cs.length = 2 := hcs.trans cellsP
    match cs, hc2 with
    | [c0, c1], _ => exact ⟨c0, c1, rfl⟩
  have g0 := hg 0 _ rfl
  have g1 := hg 1 _ rfl
  simp [cellsS, cellsB] at g0 g1
  obtain ⟨s0, f0, rfl, w0⟩ := DataW.trod_string Try.underlying9 g0
  obtain ⟨b1, f1, rfl⟩ := DataW.trod_bool Try.underlying4 g1
  simp at f0 f1
  subst f0 f1
  have e1 : wdP ⟨s0.data.toList, b1⟩ = [.string s0, .bool b1] := by unfold wdP; rw [← st_of]
  refine ⟨⟨s0.data.toList, b1⟩, w0, e1.symm, by rw [hx]; simp, by rw [hx]; rfl, fun W' b sp' hd' => ⟨2, ?_⟩⟩
  rw [e1, hx]
  simp [DataW.trod, Try.underlying54, Try.underlying9, Try.underlying4, cellsP, cellsS, cellsB, w0]
set_option maxRecDepth 100000 in
theorem open_op {base : Nat} {cs : List Value} {fuel : Nat} {x : DataW H × List MemPlace} {sp : Nat → Bool} {hd : Bool} (h : DataW.trod enc Try.prog W base sp hd fuel 43 cs = some x) :
    ∃ a : Op7, okO a ∧ cs = wdO a ∧ x.2 = [] ∧ x.1 = datO a ∧ ∀ (W' : World) (b : Nat) (sp' : Nat → Bool) (hd' : Bool), ∃ n, DataW.trod enc Try.prog W' b sp' hd' n 43 (wdO a) = some (x.1, []) := by
  obtain ⟨zs, k, _, hx, hcs, hlen, hg⟩ := DataW.trod_struct Try.underlying43 h
  obtain ⟨z0, z1, z2, z3, rfl⟩ : ∃ z0 z1 z2 z3, zs = [z0, z1, z2, z3] := by
    match zs, hlen with
    | [z0, z1, z2, z3], _ => exact ⟨z0, z1, z2, z3, rfl⟩
  obtain ⟨c0, c1, c2, c3, rfl⟩ : ∃ c0 c1 c2 c3, cs = [c0, c1, c2, c3] := by
    have hc2 : cs.length = 4 := hcs.trans cellsO
    match cs, hc2 with
    | [c0, c1, c2, c3], _ => exact ⟨c0, c1, c2, c3, rfl⟩
  have g0 := hg 0 _ rfl
  have g1 := hg 1 _ rfl
  have g2 := hg 2 _ rfl
  have g3 := hg 3 _ rfl
  simp [cellsS, cellsI] at g0 g1 g2 g3
  obtain ⟨i0, f0, rfl, w0⟩ := DataW.trod_int Try.underlying3 g0
  obtain ⟨s1, f1, rfl, w1⟩ := DataW.trod_string Try.underlying9 g1
  obtain ⟨i2, f2, rfl, w2⟩ := DataW.trod_int Try.underlying3 g2
  obtain ⟨i3, f3, rfl, w3⟩ := DataW.trod_int Try.underlying3 g3
  simp at f0 f1 f2 f3
  subst f0 f1 f2 f3
  have e1 : wdO ⟨i0, s1.data.toList, i2, i3⟩ = [.int .i64 i0, .string s1, .int .i64 i2, .int .i64 i3] := by unfold wdO; rw [← st_of]
  refine ⟨⟨i0, s1.data.toList, i2, i3⟩, ⟨i64_of w0, w1, i64_of w2, i64_of w3⟩, e1.symm, by rw [hx]; simp, by rw [hx]; rfl, fun W' b sp' hd' => ⟨2, ?_⟩⟩
  rw [e1, hx]
  simp [DataW.trod, Try.underlying43, Try.underlying9, Try.underlying3, cellsO, cellsS, cellsI, w0, w1, w2, w3]
theorem open_ops {v : Value} {d : DataW H} {p : List MemPlace} {r : Reach} {b0 : Nat}
    (hv : Value.okWide Try.prog W r b0 31 v) (h : DataW.Trod enc Try.prog W 0 (fun _ => true) true 31 v d p) (hlt : ∀ q ∈ p, q.block < W.heap.size) :
    ∃ l : List Op7, (∀ x ∈ l, okO x) ∧ (∀ x ∈ l, ∃ els spare, d = .slice els spare ∧ datO x ∈ els) ∧ LstG wdO 4 v l W ∧ ∀ (W' : World) (sp : Nat → Bool), Below W.heap.size W W' → (∀ q ∈ p, sp q.block = true) → DataW.Trod enc Try.prog W' 0 sp true 31 v d p :=
  open_list Try.underlying31 cellsO (by omega) (fun _ => rfl) (fun h => open_op h) hv h hlt
theorem open_puts {v : Value} {d : DataW H} {p : List MemPlace} {r : Reach} {b0 : Nat}
    (hv : Value.okWide Try.prog W r b0 51 v) (h : DataW.Trod enc Try.prog W 0 (fun _ => true) true 51 v d p) (hlt : ∀ q ∈ p, q.block < W.heap.size) :
    ∃ l : List Pc, (∀ x ∈ l, okP x) ∧ (∀ x ∈ l, ∃ els spare, d = .slice els spare ∧ datP x ∈ els) ∧ LstG wdP 2 v l W ∧ ∀ (W' : World) (sp : Nat → Bool), Below W.heap.size W W' → (∀ q ∈ p, sp q.block = true) → DataW.Trod enc Try.prog W' 0 sp true 51 v d p :=
  open_list Try.underlying51 cellsP (by omega) (fun _ => rfl) (fun h => open_piece h) hv h hlt
end
/-- what the statement's reach says of a text in a struct -/
theorem mem_all {H : Type} {P : Program} {e : TypeId} {l : List (DataW H)} {d : DataW H} (hd : d ∈ l) {n : Nat} (hn : n ∈ d.weights P e) : n ∈ DataW.weightsAll P e l := by
  induction l with
  | nil => cases hd
  | cons x r ih =>
    simp only [DataW.weightsAll, List.mem_append]
    rcases List.mem_cons.1 hd with rfl | h
    · exact Or.inl hn
    · exact Or.inr (ih h)
theorem reach_op {H : Type} (x : Op7) : x.data.length ∈ (datO (H := H) x).weights Try.prog 43 := by
  unfold datO
  simp [DataW.weights, DataW.weightsEach, Try.underlying43]
theorem reach_ops {H : Type} {ts : List TypeId} {ds : List (DataW H)} (h : (DataW.weightsEach Try.prog ts ds).all (· ≤ reachBytes) = true) {j : Nat} (ht : ts[j]? = some 31) {els spare : List (DataW H)} (hd : ds[j]? = some (.slice els spare)) {x : Op7} (hx : datO x ∈ els) : x.data.length ≤ 140737488351232 := by
  have := List.all_eq_true.1 h _ (DataW.weights_mem_each ht hd x.data.length (by
    simp only [DataW.weights, Try.underlying31, List.mem_cons, List.mem_append]
    exact Or.inr (Or.inl (mem_all hx (reach_op x)))))
  have h2 : x.data.length ≤ reachBytes := by simpa using this
  exact h2
theorem reach_put {H : Type} (x : Pc) : x.data.length ∈ (datP (H := H) x).weights Try.prog 54 := by
  unfold datP
  simp [DataW.weights, DataW.weightsEach, Try.underlying54]
theorem reach_puts {H : Type} {ts : List TypeId} {ds : List (DataW H)} (h : (DataW.weightsEach Try.prog ts ds).all (· ≤ reachBytes) = true) {j : Nat} (ht : ts[j]? = some 51) {els spare : List (DataW H)} (hd : ds[j]? = some (.slice els spare)) {x : Pc} (hx : datP x ∈ els) : x.data.length ≤ 140737488351232 := by
  have := List.all_eq_true.1 h _ (DataW.weights_mem_each ht hd x.data.length (by
    simp only [DataW.weights, Try.underlying51, List.mem_cons, List.mem_append]
    exact Or.inr (Or.inl (mem_all hx (reach_put x)))))
  have h2 : x.data.length ≤ reachBytes := by simpa using this
  exact h2
end Go.Proofs.Ytnaedngbcndakaa
