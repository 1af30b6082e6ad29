/-
  The library's sort at ranges (by their first addresses) and at addresses: the same elements, in order. Conditions: the words are words of 64 bits; at most 2000 elements.
-/
import Derived.Test.YtfmhpnendcikoaaGreatPoI
import Derived.Test.YtfmhpnendcikoaaGreatPoSo0
import Derived.Sort.QuietIn
import Derived.Shelf.SlSortCmp.NoneTotal
namespace Go.Proofs.YtfmhpnendcikoaaGreat
open Go.RowKit Go.Joins

def Same (v : Value) (w : World) (e : Ending) (w' : World) : Prop := e = .returned v ∧ w = w'
/-- new memory and draws, nothing else -/
def Grew (w w' : World) : Prop := Below w.heap.size w w' ∧ w.drawn ≤ w'.drawn
theorem Grew.refl (w : World) : Grew w w := ⟨Below.refl _ _, Nat.le_refl _⟩
theorem Grew.trans {a b c : World} (h : Grew a b) (k : Grew b c) : Grew a c := ⟨chain h.1 k.1, Nat.le_trans h.2 k.2⟩
theorem grew_alloc (w : World) (o : Obj) : Grew w (w.alloc o) := ⟨below_alloc w o, Nat.le_refl _⟩
theorem Grew.grow {w w' : World} (h : Grew w w') : ∃ q os, w' = Go.Sort.grow (w.drewN q) os := by
  refine ⟨w'.drawn - w.drawn, w'.heap.extract w.heap.size w'.heap.size, ?_⟩
  obtain ⟨hb, hd⟩ := h
  obtain ⟨heap, tape, drawn, os, output⟩ := w
  obtain ⟨heap', tape', drawn', os', output'⟩ := w'
  have h1 := hb.os
  have h2 := hb.tape
  have h3 := hb.output
  have h4 := hb.size
  have h5 := hb.block
  simp only at h1 h2 h3 h4 h5 hd
  subst h1 h2 h3
  unfold Go.Sort.grow World.drewN
  simp only
  congr 1
  · apply Array.ext_getElem?
    intro i
    rw [Array.getElem?_append]
    split
    · exact h5 i (by assumption)
    · rw [Array.getElem?_extract]
      split
      · congr 1; omega
      · rw [Array.getElem?_eq_none]; omega
  · omega
def GivesG (v : Value) (w : World) (e : Ending) (w' : World) : Prop := e = .returned v ∧ Grew w w'
theorem cmpU_same (x y : Nat) (w : World) : Calls Tryz.prog 35 #[.int .u64 (x : Nat), .int .u64 (y : Nat)] w (Same (.int .i64 (cmpS x y)) w) := by
  rcases Nat.lt_trichotomy x y with h | h | h
  · have H := hide (cmpS_lt h)
    go_enter Tryz.func35, Tryz.ntmps35
    go_wp2
    go_ret
    exact ⟨congrArg Ending.returned (i64_eq H.out.symm), rfl⟩
  · subst h
    have H := hide (cmpS_eq (rfl : x = x))
    go_enter Tryz.func35, Tryz.ntmps35
    go_wp2
    go_ret
    exact ⟨congrArg Ending.returned (i64_eq H.out.symm), rfl⟩
  · have H := hide (cmpS_gt h)
    go_enter Tryz.func35, Tryz.ntmps35
    go_wp2
    go_ret
    exact ⟨congrArg Ending.returned (i64_eq H.out.symm), rfl⟩
set_option maxHeartbeats 400000 in
theorem cmpG_any (a b : Nat) (w : World) : Calls Tryz.prog 18 #[A a, A b] w (GivesG (.int .i64 (cmpS a b)) w) := by
  by_cases h : hi a = hi b
  · have H := hide (cmp_lo h)
    have K : (((hi a : Nat) : Int) != ((hi b : Nat) : Int)) = false := by rw [h]; simp
    clear h
    go_enter Tryz.func18, Tryz.ntmps18
    go_wp2_with (go_at_call 35; refine (cmpU_same _ _ _).mono ?_; rintro e w' ⟨rfl, rfl⟩)
    go_ret
    exact ⟨congrArg Ending.returned (i64_eq H.out), (grew_alloc _ _).trans (grew_alloc _ _)⟩
  · have H := hide (cmp_hi h)
    have K : (((hi a : Nat) : Int) != ((hi b : Nat) : Int)) = true := by simp; omega
    clear h
    go_enter Tryz.func18, Tryz.ntmps18
    go_wp2_with (go_at_call 35; refine (cmpU_same _ _ _).mono ?_; rintro e w' ⟨rfl, rfl⟩)
    go_ret
    exact ⟨congrArg Ending.returned (i64_eq H.out), (grew_alloc _ _).trans (grew_alloc _ _)⟩
theorem cmpr_lt (a b : Nat) : decide (cmpS a b < 0) = decide (a < b) := by
  unfold cmpS
  rw [decide_eq_decide]
  repeat' split
  all_goals omega
set_option maxHeartbeats 400000 in
theorem first_g (x y : Rg) (w : World) : Calls Tryz.prog 37 #[RV x, RV y] w (GivesG (.int .i64 (cmpS x.1 y.1)) w) := by
  go_enter Tryz.func37, Tryz.ntmps37
  go_wp2_with fail
  refine (cmpG_any x.1 y.1 _).mono ?_
  rintro e w1 ⟨rfl, hb1⟩
  go_wp2
  go_ret
  exact ⟨rfl, ((grew_alloc _ _).trans (grew_alloc _ _)).trans hb1⟩
theorem below_sort {base g : Nat} {w W : World} (h1 : W.os = w.os) (h2 : W.tape = w.tape) (h3 : W.output = w.output) (h4 : w.heap.size ≤ W.heap.size) (h5 : ∀ k, k < base → W.heap[k]? = w.heap[k]?) (_hg : base ≤ g) : Below base w W := ⟨h1, h2, h3, h4, h5⟩
abbrev HoldsR (W : World) (g : Nat) (F : List Rg) : Prop := Go.Sort.HoldsK cells4 4 W g 0 F.toArray
theorem sort_frR (w : World) (g n : Nat) (d : Array Rg) (os : Array Obj) {base : Nat} (hg : base ≤ g) (hb : base ≤ w.heap.size) : Below base w (Go.Proofs.sortWorldK cells4 4 w g 0 n d os) := by
  unfold Go.Proofs.sortWorldK Go.Sort.putRowK
  refine ⟨rfl, rfl, rfl, by simp [Go.Sort.ahead], fun k hk => ?_⟩
  have h1 : (Go.Sort.putRow id (Go.Sort.ahead w n) g 0 (Go.Sort.flatK cells4 4 d)).heap[k]? = w.heap[k]? := by
    unfold Go.Sort.putRow Go.Sort.mapBlock Go.Sort.ahead
    show (w.heap.modify g _)[k]? = _
    rw [Array.getElem?_modify, if_neg (by omega)]
  unfold Go.Sort.grow
  show ((Go.Sort.putRow id (Go.Sort.ahead w n) g 0 (Go.Sort.flatK cells4 4 d)).heap ++ os)[k]? = _
  rw [Array.getElem?_append, if_pos (by rw [Go.Sort.size_putRow]; have : (Go.Sort.ahead w n).heap.size = w.heap.size := rfl; omega), h1]
theorem sort_sizeR (w : World) (g n : Nat) (d : Array Rg) (os : Array Obj) : w.heap.size ≤ (Go.Proofs.sortWorldK cells4 4 w g 0 n d os).heap.size := by
  unfold Go.Proofs.sortWorldK Go.Sort.putRowK
  simp [Go.Sort.ahead]
theorem holds_rowR {W : World} {g : Nat} {F : List Rg} (h : HoldsR W g F) (hg : g < W.heap.size) : RowR g 0 F W := by
  refine ⟨hg, fun j x hx => ?_⟩
  obtain ⟨hi, rfl⟩ := List.getElem?_eq_some_iff.1 hx
  have e : F.toArray[j]! = F[j] := by simp [hi]
  have C : ∀ c, c < 4 → W.cell? ⟨g, 0 + (j * 4 + c), none⟩ = some ((cells4 F[j])[c]!) := fun c hc => by
    have := (Go.Sort.HoldsK.cell h (i := j) (c := c) (by simpa using hi) hc).1
    rw [e] at this
    simpa [Nat.add_assoc] using this
  refine ⟨?_, ?_, ?_, ?_⟩
  · have := C 0 (by omega); simpa [cells4] using this
  · have := C 1 (by omega); simpa [cells4, Nat.add_assoc] using this
  · have := C 2 (by omega); simpa [cells4, Nat.add_assoc] using this
  · have := C 3 (by omega); simpa [cells4, Nat.add_assoc] using this
theorem holds_ownR {w : World} {base g cap : Nat} {F : List Rg} (h : Own w base (.slice (some ⟨g, 0, none⟩) F.length cap) F) : HoldsR w g F := by
  intro j hj
  have hj2 : j < F.length * 4 := by simpa using hj
  obtain ⟨x, hx⟩ : ∃ x, F[j / 4]? = some x := ⟨_, List.getElem?_eq_getElem (by omega)⟩
  refine ⟨?_, by rw [Nat.zero_add]; exact h.frozenAt j⟩
  rw [Nat.zero_add, h.cellAt j hj2]
  have e := cellsR_at hx (j % 4) (Nat.mod_lt _ (by omega))
  rw [show j / 4 * 4 + j % 4 = j by omega] at e
  rw [e, Go.Sort.get_flatK _ _ _ _ (by simpa using hj2)]
  obtain ⟨hl, rfl⟩ := List.getElem?_eq_some_iff.1 hx
  have e2 : F.toArray[j / 4]! = F[j / 4] := by simp [hl]
  rw [e2]
  have hl3 : (cells4 F[j / 4]).length = 4 := rfl
  have hm : j % 4 < 4 := Nat.mod_lt _ (by omega)
  rw [List.getElem?_eq_getElem (by omega)]
  simp [hl3, hm]
def cfR (x y : Rg) : Int := cmpS x.1 y.1
theorem lt_cfR (x y : Rg) : Go.Proofs.ltOf cfR x y = decide (x.1 < y.1) := cmpr_lt x.1 y.1
theorem swo_cfR : Go.Sort.SWO (Go.Proofs.ltOf cfR) where
  irrefl x := by rw [lt_cfR]; simp
  trans x y z h1 h2 := by rw [lt_cfR, decide_eq_true_iff] at *; omega
  ntrans x y z h1 h2 := by rw [lt_cfR, decide_eq_false_iff_not] at *; omega
theorem enters_cmpR (args : Array Value) (w : World) : (callFunc 37 args).run Tryz.prog w = .ok (.enter 37 args) w := enters_of Tryz.func37 (by kernel_rfl) rfl args w
/-- what the sort leaves -/
def SortsR (base : Nat) (v : Value) (F : List Rg) (w : World) (e : Ending) (w' : World) : Prop :=
  e = .returned (.tuple #[]) ∧ ∃ R, R.Perm F ∧ R.Pairwise (fun x y => x.1 ≤ y.1) ∧ Lst v R w' ∧ Below base w w'
theorem sort_someR {w : World} {base g cap : Nat} {F : List Rg} (hO : Own w base (.slice (some ⟨g, 0, none⟩) F.length cap) F) (hb : base ≤ w.heap.size) (hF : F.length ≤ 2000) (hne : F ≠ []) :
    Calls Tryz.prog 36 #[.slice (some ⟨g, 0, none⟩) F.length cap, .func (.func 37) #[] #[]] w (SortsR base (.slice (some ⟨g, 0, none⟩) F.length cap) F w) := by
  obtain ⟨hg1, hg⟩ := hO.lt g rfl
  have hH := holds_ownR hO
  have hcmp : Go.Proofs.CmpLays Tryz.prog 37 #[] cells4 4 cfR g 0 F.toArray.size w := fun m os dk _ x y => (first_g x y _).mono fun e w' ⟨he, hg⟩ => ⟨he, hg.grow⟩
  have h := AnyQ.slices_SortFunc Tryz.sortR 4 Tryz.isAgg36 Tryz.sizeOf36 cells4 (fun _ => rfl) (fun x v hv => by simp [cells4] at hv; rcases hv with rfl | rfl | rfl | rfl <;> rfl) cfR swo_cfR 37 #[] g 0 cap F.toArray w enters_cmpR hcmp hH hg (by simp; omega)
  change Calls Tryz.prog 36 _ _ _ at h
  rw [List.size_toArray] at h
  refine h.mono fun e w' ⟨he, d', n, os, hp, hs, hw⟩ => ⟨he, d'.toList, ?_, ?_, ?_, ?_⟩
  · obtain ⟨h1, h2, h3⟩ := hp
    have a : d'.extract 0 F.length = d' := by rw [Array.extract_eq_self_of_le]; simp at h1; omega
    have b : F.toArray.extract 0 F.length = F.toArray := by rw [Array.extract_eq_self_of_le]; simp
    rw [a, b] at h3
    simpa using h3
  · rw [List.pairwise_iff_getElem]
    intro i j hi hj hij
    have h1 := hp.1
    simp at hi hj h1
    have := hs i j (Nat.zero_le _) hij (by omega)
    rw [getElem!_pos d' j (by omega), getElem!_pos d' i (by omega), lt_cfR, decide_eq_false_iff_not] at this
    simp only [Array.getElem_toList]
    omega
  · rw [hw]
    have h1 := hp.1
    simp at h1
    have hh := Go.Proofs.holdsK_sortWorldK_c (enc := cells4) (k := 4) (w := w) (blk := g) (off := 0) F.toArray d' n os hH hg hp.1
    have hl : d'.toList.length = F.length := by simpa using h1
    have hr : RowR g 0 d'.toList (Go.Proofs.sortWorldK cells4 4 w g 0 n d' os) := holds_rowR (by simpa [HoldsR] using hh) (Nat.lt_of_lt_of_le hg (sort_sizeR _ _ _ _ _))
    rcases lst_cap (own_lst hO) with ⟨lc1, lc2, _⟩
    refine Or.inr ⟨g, 0, cap, by rw [hl], hr, by omega, fun e => ?_, lc2⟩
    rw [e] at hl
    exact hne (List.length_eq_zero_iff.1 hl.symm)
  · rw [hw]; exact sort_frR w g n d' os hg1 hb
theorem sort_noneR (p : Option Go.Addr) (cap : Nat) (w : World) : Calls Tryz.prog 36 #[.slice p 0 cap, .func (.func 37) #[] #[]] w (Same (.tuple #[]) w) := by
  have h := AnyF.slices_SortFunc_none { Tryz.sortR with } p cap (.func (.func 37) #[] #[]) w
  change Calls Tryz.prog 36 _ _ _ at h
  exact h.mono fun e w' ⟨he, hw⟩ => ⟨he, hw.symm⟩
theorem sort_anyR {w : World} {base : Nat} {v : Value} {F : List Rg} (hO : Own w base v F) (hb : base ≤ w.heap.size) (hF : F.length ≤ 2000) :
    Calls Tryz.prog 36 #[v, .func (.func 37) #[] #[]] w (SortsR base v F w) := by
  by_cases hne : F = []
  · subst hne
    obtain ⟨p, c, rfl⟩ := lst_len (own_lst hO)
    have hl := own_lst hO
    refine (sort_noneR p c w).mono fun e w' ⟨he, hw⟩ => ⟨he, [], List.Perm.refl _, List.Pairwise.nil, ?_, ?_⟩
    · rw [← hw]; exact hl
    · rw [← hw]; exact Below.refl _ _
  · have hO2 := hO
    rcases hO.2 with ⟨rfl, hn⟩ | ⟨g, cap, cur, rfl, _⟩
    · exact absurd (List.length_eq_zero_iff.1 hn) hne
    · exact sort_someR hO2 hb hF hne
theorem cellsA_c {l : List Nat} {j x : Nat} (h : l[j]? = some x) (i : Nat) (hi : i < 2) : (cellsA l)[j * 2 + i]? = (cells2 x)[i]? := by
  obtain ⟨a, b⟩ := cellsA_at h
  rcases (show i = 0 ∨ i = 1 by omega) with rfl | rfl
  · exact a
  · exact b
abbrev HoldsA (W : World) (g : Nat) (F : List Nat) : Prop := Go.Sort.HoldsK cells2 2 W g 0 F.toArray
theorem sort_frA (w : World) (g n : Nat) (d : Array Nat) (os : Array Obj) {base : Nat} (hg : base ≤ g) (hb : base ≤ w.heap.size) : Below base w (Go.Proofs.sortWorldK cells2 2 w g 0 n d os) := by
  unfold Go.Proofs.sortWorldK Go.Sort.putRowK
  refine ⟨rfl, rfl, rfl, by simp [Go.Sort.ahead], fun k hk => ?_⟩
  have h1 : (Go.Sort.putRow id (Go.Sort.ahead w n) g 0 (Go.Sort.flatK cells2 2 d)).heap[k]? = w.heap[k]? := by
    unfold Go.Sort.putRow Go.Sort.mapBlock Go.Sort.ahead
    show (w.heap.modify g _)[k]? = _
    rw [Array.getElem?_modify, if_neg (by omega)]
  unfold Go.Sort.grow
  show ((Go.Sort.putRow id (Go.Sort.ahead w n) g 0 (Go.Sort.flatK cells2 2 d)).heap ++ os)[k]? = _
  rw [Array.getElem?_append, if_pos (by rw [Go.Sort.size_putRow]; have : (Go.Sort.ahead w n).heap.size = w.heap.size := rfl; omega), h1]
theorem sort_sizeA (w : World) (g n : Nat) (d : Array Nat) (os : Array Obj) : w.heap.size ≤ (Go.Proofs.sortWorldK cells2 2 w g 0 n d os).heap.size := by
  unfold Go.Proofs.sortWorldK Go.Sort.putRowK
  simp [Go.Sort.ahead]
theorem holds_rowA {W : World} {g : Nat} {F : List Nat} (h : HoldsA W g F) (hg : g < W.heap.size) : RowA g 0 F W := by
  refine ⟨hg, fun j x hx => ?_⟩
  obtain ⟨hi, rfl⟩ := List.getElem?_eq_some_iff.1 hx
  have e : F.toArray[j]! = F[j] := by simp [hi]
  have C : ∀ c, c < 2 → W.cell? ⟨g, 0 + (j * 2 + c), none⟩ = some ((cells2 F[j])[c]!) := fun c hc => by
    have := (Go.Sort.HoldsK.cell h (i := j) (c := c) (by simpa using hi) hc).1
    rw [e] at this
    simpa [Nat.add_assoc] using this
  refine ⟨?_, ?_⟩
  · have := C 0 (by omega); simpa [cells2] using this
  · have := C 1 (by omega); simpa [cells2, Nat.add_assoc] using this
theorem holds_ownA {w : World} {base g cap : Nat} {F : List Nat} (h : OwnA w base (.slice (some ⟨g, 0, none⟩) F.length cap) F) : HoldsA w g F := by
  intro j hj
  have hj2 : j < F.length * 2 := by simpa using hj
  obtain ⟨x, hx⟩ : ∃ x, F[j / 2]? = some x := ⟨_, List.getElem?_eq_getElem (by omega)⟩
  refine ⟨?_, by rw [Nat.zero_add]; exact h.frozenAt j⟩
  rw [Nat.zero_add, h.cellAt j hj2]
  have e := cellsA_c hx (j % 2) (Nat.mod_lt _ (by omega))
  rw [show j / 2 * 2 + j % 2 = j by omega] at e
  rw [e, Go.Sort.get_flatK _ _ _ _ (by simpa using hj2)]
  obtain ⟨hl, rfl⟩ := List.getElem?_eq_some_iff.1 hx
  have e2 : F.toArray[j / 2]! = F[j / 2] := by simp [hl]
  rw [e2]
  have hl3 : (cells2 F[j / 2]).length = 2 := rfl
  have hm : j % 2 < 2 := Nat.mod_lt _ (by omega)
  rw [List.getElem?_eq_getElem (by omega)]
  simp [hl3, hm]
def cfA (x y : Nat) : Int := cmpS x y
theorem lt_cfA (x y : Nat) : Go.Proofs.ltOf cfA x y = decide (x < y) := cmpr_lt x y
theorem swo_cfA : Go.Sort.SWO (Go.Proofs.ltOf cfA) where
  irrefl x := by rw [lt_cfA]; simp
  trans x y z h1 h2 := by rw [lt_cfA, decide_eq_true_iff] at *; omega
  ntrans x y z h1 h2 := by rw [lt_cfA, decide_eq_false_iff_not] at *; omega
theorem sort_heapA (w : World) (g n : Nat) (d : Array Nat) (os : Array Obj) {cur : Array Value} {e : TypeId} (hg : w.heap[g]? = some (.cells cur e (0, 0))) :
    ∃ cur', (Go.Proofs.sortWorldK cells2 2 w g 0 n d os).heap[g]? = some (.cells cur' e (0, 0)) ∧ cur'.size = cur.size := by
  refine ⟨Go.Sort.putCells id 0 (Go.Sort.flatK cells2 2 d) cur, ?_, by simp [Go.Sort.putCells]⟩
  have hl : g < w.heap.size := by
    rcases Nat.lt_or_ge g w.heap.size with h' | h'
    · exact h'
    · rw [Array.getElem?_eq_none h'] at hg; cases hg
  unfold Go.Proofs.sortWorldK Go.Sort.putRowK Go.Sort.grow
  show ((Go.Sort.putRow id (Go.Sort.ahead w n) g 0 (Go.Sort.flatK cells2 2 d)).heap ++ os)[g]? = _
  rw [Array.getElem?_append, if_pos (by rw [Go.Sort.size_putRow]; exact hl)]
  unfold Go.Sort.putRow Go.Sort.mapBlock Go.Sort.ahead
  show (w.heap.modify g _)[g]? = _
  rw [Array.getElem?_modify, if_pos rfl, hg]
  rfl
theorem own_sortedA {w W : World} {base g cap : Nat} {F R : List Nat} (h : OwnA w base (.slice (some ⟨g, 0, none⟩) F.length cap) F) (hl : R.length = F.length) (hr : RowA g 0 R W)
    (hh : ∀ {cur : Array Value} {e : TypeId}, w.heap[g]? = some (.cells cur e (0, 0)) → ∃ cur', W.heap[g]? = some (.cells cur' e (0, 0)) ∧ cur'.size = cur.size) : OwnA W base (.slice (some ⟨g, 0, none⟩) F.length cap) R := by
  rcases h.2 with ⟨h', _⟩ | ⟨g', cap', cur, h', hb, hg, hnc, hcm, hcs, htake⟩
  · simp at h'
  · simp only [Value.slice.injEq, Option.some.injEq, Addr.mk.injEq, and_true, true_and] at h'
    obtain ⟨rfl, rfl⟩ := h'
    obtain ⟨cur', h1, h2⟩ := hh hg
    refine ⟨by rw [cellsA_len], Or.inr ⟨g, cap, cur', by rw [hl], hb, h1, by omega, hcm, by rw [h2]; exact hcs, ?_⟩⟩
    apply List.ext_getElem?
    intro m
    by_cases hm : m < R.length * 2
    · rw [List.getElem?_take_of_lt hm, Array.getElem?_toList]
      obtain ⟨x, hx⟩ : ∃ x, R[m / 2]? = some x := ⟨_, List.getElem?_eq_getElem (by omega)⟩
      have hc := cellsA_c hx (m % 2) (Nat.mod_lt _ (by omega))
      rw [show m / 2 * 2 + m % 2 = m by omega] at hc
      rw [hc, ← cell_of_row W g m cur' 31 (0, 0) h1]
      obtain ⟨a, b⟩ := hr.2 (m / 2) x hx
      rw [Nat.zero_add] at a b
      rcases (show m % 2 = 0 ∨ m % 2 = 1 by omega) with e | e
      · rw [show m / 2 * 2 = m by omega] at a
        rw [e, a]; rfl
      · rw [show m / 2 * 2 + 1 = m by omega] at b
        rw [e, b]; rfl
    · rw [List.getElem?_take_eq_none (by omega), List.getElem?_eq_none (by rw [cellsA_len]; omega)]
theorem enters_cmpA (args : Array Value) (w : World) : (callFunc 18 args).run Tryz.prog w = .ok (.enter 18 args) w := enters_of Tryz.func18 (by kernel_rfl) rfl args w
/-- what the sort leaves -/
def SortsA (base : Nat) (v : Value) (F : List Nat) (w : World) (e : Ending) (w' : World) : Prop :=
  e = .returned (.tuple #[]) ∧ ∃ R, R.Perm F ∧ R.Pairwise (fun x y => x ≤ y) ∧ LstA v R w' ∧ Below base w w' ∧ OwnA w' base v R
theorem sort_someA {w : World} {base g cap : Nat} {F : List Nat} (hO : OwnA w base (.slice (some ⟨g, 0, none⟩) F.length cap) F) (hb : base ≤ w.heap.size) (hF : F.length ≤ 2000) (hne : F ≠ []) :
    Calls Tryz.prog 32 #[.slice (some ⟨g, 0, none⟩) F.length cap, .func (.func 18) #[] #[]] w (SortsA base (.slice (some ⟨g, 0, none⟩) F.length cap) F w) := by
  obtain ⟨hg1, hg⟩ := hO.lt g rfl
  have hH := holds_ownA hO
  have hcmp : Go.Proofs.CmpLays Tryz.prog 18 #[] cells2 2 cfA g 0 F.toArray.size w := fun m os dk _ x y => (cmpG_any x y _).mono fun e w' ⟨he, hg⟩ => ⟨he, hg.grow⟩
  have h := AnyQ.slices_SortFunc Tryz.sortA 2 Tryz.isAgg31 Tryz.sizeOf31 cells2 (fun _ => rfl) (fun x v hv => by simp [cells2] at hv; rcases hv with rfl | rfl <;> rfl) cfA swo_cfA 18 #[] g 0 cap F.toArray w enters_cmpA hcmp hH hg (by simp; omega)
  change Calls Tryz.prog 32 _ _ _ at h
  rw [List.size_toArray] at h
  refine h.mono fun e w' ⟨he, d', n, os, hp, hs, hw⟩ => ⟨he, d'.toList, ?_, ?_, ?_, ?_, ?_⟩
  · obtain ⟨h1, h2, h3⟩ := hp
    have a : d'.extract 0 F.length = d' := by rw [Array.extract_eq_self_of_le]; simp at h1; omega
    have b : F.toArray.extract 0 F.length = F.toArray := by rw [Array.extract_eq_self_of_le]; simp
    rw [a, b] at h3
    simpa using h3
  · rw [List.pairwise_iff_getElem]
    intro i j hi hj hij
    have h1 := hp.1
    simp at hi hj h1
    have := hs i j (Nat.zero_le _) hij (by omega)
    rw [getElem!_pos d' j (by omega), getElem!_pos d' i (by omega), lt_cfA, decide_eq_false_iff_not] at this
    simp only [Array.getElem_toList]
    omega
  · rw [hw]
    have h1 := hp.1
    simp at h1
    have hh := Go.Proofs.holdsK_sortWorldK_c (enc := cells2) (k := 2) (w := w) (blk := g) (off := 0) F.toArray d' n os hH hg hp.1
    have hl : d'.toList.length = F.length := by simpa using h1
    have hr : RowA g 0 d'.toList (Go.Proofs.sortWorldK cells2 2 w g 0 n d' os) := holds_rowA (by simpa [HoldsA] using hh) (Nat.lt_of_lt_of_le hg (sort_sizeA _ _ _ _ _))
    rcases lstA_cap (ownA_lst hO) with ⟨_, lc1, lc2, _⟩
    refine Or.inr ⟨g, 0, cap, by rw [hl], hr, by omega, fun e => ?_, lc2⟩
    rw [e] at hl
    exact hne (List.length_eq_zero_iff.1 hl.symm)
  · rw [hw]; exact sort_frA w g n d' os hg1 hb
  · have h1 := hp.1
    simp at h1
    have hh := Go.Proofs.holdsK_sortWorldK_c (enc := cells2) (k := 2) (w := w) (blk := g) (off := 0) F.toArray d' n os hH hg hp.1
    have hl : d'.toList.length = F.length := by simpa using h1
    rw [hw]
    exact own_sortedA hO hl (holds_rowA (by simpa [HoldsA] using hh) (Nat.lt_of_lt_of_le hg (sort_sizeA _ _ _ _ _))) (sort_heapA w g n d' os)
theorem sort_noneA (p : Option Go.Addr) (cap : Nat) (w : World) : Calls Tryz.prog 32 #[.slice p 0 cap, .func (.func 18) #[] #[]] w (Same (.tuple #[]) w) := by
  have h := AnyF.slices_SortFunc_none { Tryz.sortA with } p cap (.func (.func 18) #[] #[]) w
  change Calls Tryz.prog 32 _ _ _ at h
  exact h.mono fun e w' ⟨he, hw⟩ => ⟨he, hw.symm⟩
theorem sort_anyA {w : World} {base : Nat} {v : Value} {F : List Nat} (hO : OwnA w base v F) (hb : base ≤ w.heap.size) (hF : F.length ≤ 2000) :
    Calls Tryz.prog 32 #[v, .func (.func 18) #[] #[]] w (SortsA base v F w) := by
  by_cases hne : F = []
  · subst hne
    obtain ⟨p, c, rfl⟩ := lstA_len (ownA_lst hO)
    have hl := ownA_lst hO
    refine (sort_noneA p c w).mono fun e w' ⟨he, hw⟩ => ⟨he, [], List.Perm.refl _, List.Pairwise.nil, ?_, ?_, ?_⟩
    · rw [← hw]; exact hl
    · rw [← hw]; exact Below.refl _ _
    · rw [← hw]; exact hO
  · have hO2 := hO
    rcases hO.2 with ⟨rfl, hn⟩ | ⟨g, cap, cur, rfl, _⟩
    · exact absurd (List.length_eq_zero_iff.1 hn) hne
    · exact sort_someA hO2 hb hF hne
end Go.Proofs.YtfmhpnendcikoaaGreat
