/-
  Contracts of the orders that a table's leases are sorted by, in the form that the library's sort asks: new memory and draws, nothing else. No condition.
  The library's sort of a row of leases: the same leases, in order. Condition: the order is a strict weak one; what compares makes new memory and draws, nothing else.
-/
import Derived.Test.YtpldkgollhbolaaGreatT8
import Derived.Test.YtpldkgollhbolaaGreatTbSo0
import Derived.Shelf.SlSortCmp.NoneTotal
namespace Go.Proofs.YtpldkgollhbolaaGreat
open Go.RowKit Go.Joins Go.Maps

variable {w w' V W W' : World}
/-- new memory and draws, nothing else -/
def Grew (w w' : World) : Prop := Below w.heap.size w w' ∧ w.drawn ≤ w'.drawn
theorem Grew.refl (w : World) : Grew w w := ⟨Below.refl _ _, Nat.le_refl _⟩
theorem Grew.trans {a b c : World} (h : Grew a b) (k : Grew b c) : Grew a c := ⟨chain h.1 k.1, Nat.le_trans h.2 k.2⟩
theorem grew_alloc (w : World) (o : Obj) : Grew w (w.alloc o) := ⟨below_alloc w o, Nat.le_refl _⟩
theorem grew_drew (w : World) : Grew w w.drew := ⟨below_drew w, Nat.le_succ _⟩
theorem Grew.grow (h : Grew w w') : ∃ q os, w' = Go.Sort.grow (w.drewN q) os := by
  refine ⟨w'.drawn - w.drawn, w'.heap.extract w.heap.size w'.heap.size, ?_⟩
  obtain ⟨hb, hd⟩ := h
  obtain ⟨heap, tape, drawn, os, output⟩ := w
  obtain ⟨heap', tape', drawn', os', output'⟩ := w'
  have h1 := hb.os
  have h2 := hb.tape
  have h3 := hb.output
  have h4 := hb.size
  have h5 := hb.block
  simp only at h1 h2 h3 h4 h5 hd
  subst h1 h2 h3
  unfold Go.Sort.grow World.drewN
  simp only
  congr 1
  · apply Array.ext_getElem?
    intro i
    rw [Array.getElem?_append]
    split
    · exact h5 i (by assumption)
    · rw [Array.getElem?_extract]
      split
      · congr 1; omega
      · rw [Array.getElem?_eq_none]; omega
  · omega
def GivesG (v : Value) (w : World) (e : Ending) (w' : World) : Prop := e = .returned v ∧ Grew w w'
theorem cmpU_same (x y : Int) (w : World) : Calls Tryz.prog 100 #[.int .u64 x, .int .u64 y] w (Same (.int .i64 (cmpI x y)) w) := by
  rcases Int.lt_trichotomy x y with h | h | h
  · have H := hide (cmpI_lt h)
    go_enter Tryz.func100, Tryz.ntmps100
    go_wp2
    go_ret
    exact ⟨congrArg Ending.returned (i64_eq H.out.symm), rfl⟩
  · subst h
    have H := hide (cmpI_eq x)
    go_enter Tryz.func100, Tryz.ntmps100
    go_wp2
    go_ret
    exact ⟨congrArg Ending.returned (i64_eq H.out.symm), rfl⟩
  · have H := hide (cmpI_gt h)
    go_enter Tryz.func100, Tryz.ntmps100
    go_wp2
    go_ret
    exact ⟨congrArg Ending.returned (i64_eq H.out.symm), rfl⟩
theorem cmpS_words (a b : Nat) : cmpS a b = if hi a = hi b then cmpI (lo a : Nat) (lo b : Nat) else cmpI (hi a : Nat) (hi b : Nat) := by
  rw [cmpS_cmpI]
  unfold cmpI hi lo
  split
  · repeat' split
    all_goals omega
  · repeat' split
    all_goals omega
set_option maxHeartbeats 400000 in
theorem cmpG_any (a b : Nat) (w : World) : Calls Tryz.prog 86 #[A a, A b] w (GivesG (.int .i64 (cmpS a b)) w) := by
  have D := cmpS_words a b
  by_cases h : hi a = hi b
  · rw [if_pos h] at D
    have H := hide D
    have K : (((hi a : Nat) : Int) != ((hi b : Nat) : Int)) = false := by rw [h]; simp
    clear h D
    go_enter Tryz.func86, Tryz.ntmps86
    go_wp2_with (go_at_call 100; refine (cmpU_same _ _ _).mono ?_; rintro e w' ⟨rfl, rfl⟩)
    go_ret
    exact ⟨congrArg Ending.returned (i64_eq H.out.symm), (grew_alloc _ _).trans (grew_alloc _ _)⟩
  · rw [if_neg h] at D
    have H := hide D
    have K : (((hi a : Nat) : Int) != ((hi b : Nat) : Int)) = true := by simp; omega
    clear h D
    go_enter Tryz.func86, Tryz.ntmps86
    go_wp2_with (go_at_call 100; refine (cmpU_same _ _ _).mono ?_; rintro e w' ⟨rfl, rfl⟩)
    go_ret
    exact ⟨congrArg Ending.returned (i64_eq H.out.symm), (grew_alloc _ _).trans (grew_alloc _ _)⟩
def PG (w : World) (p : Nat) (n : Int) (q : Nat) (m : Int) (W : World) : Prop := PB w p n q m W ∧ w.drawn ≤ W.drawn
theorem PG.step {p : Nat} {n : Int} {q : Nat} {m : Int} {W2 : World} (h : PG w p n q m W) (hb : Grew W W2) : PG w p n q m W2 := ⟨h.1.step hb.1, Nat.le_trans h.2 hb.2⟩
theorem PG.all {p : Nat} {n : Int} {q : Nat} {m : Int} (h : PG w p n q m W) : PG w p n q m W ∧ W.cell? ⟨w.heap.size, 0, none⟩ = some (.int .u64 (hi p : Nat)) ∧ W.cell? ⟨w.heap.size, 1, none⟩ = some (.int .u64 (lo p : Nat)) ∧ W.cell? ⟨w.heap.size, 2, none⟩ = some (.int .i64 n) ∧
    W.cell? ⟨w.heap.size + 1, 0, none⟩ = some (.int .u64 (hi q : Nat)) ∧ W.cell? ⟨w.heap.size + 1, 1, none⟩ = some (.int .u64 (lo q : Nat)) ∧ W.cell? ⟨w.heap.size + 1, 2, none⟩ = some (.int .i64 m) := ⟨h, h.1.all.2⟩
set_option maxRecDepth 100000 in
set_option maxHeartbeats 2000000 in
theorem compareG_any (k : Int) (p : Nat) (n : Int) (j : Int) (q : Nat) (m : Int) (w : World) :
    Calls Tryz.prog 62 #[.int .i64 k, Pv p n, .int .i64 j, Pv q m] w (GivesG (.int .i64 (compareS k p n j q m)) w) := by
  have R := hide (show or3 (cmpI k j) (cmpS p q) (cmpI n m) = compareS k p n j q m from rfl)
  generalize compareS k p n j q m = res at *
  have H : PG w p n q m ((w.alloc (.cells #[.int .u64 (hi p : Nat), .int .u64 (lo p : Nat), .int .i64 n] 27)).alloc (.cells #[.int .u64 (hi q : Nat), .int .u64 (lo q : Nat), .int .i64 m] 27)) := ⟨pb_new w p n q m 27, Nat.le_refl _⟩
  go_enter Tryz.func62, Tryz.ntmps62
  go_wp2_with fail
  generalize (w.alloc (.cells #[.int .u64 (hi p : Nat), .int .u64 (lo p : Nat), .int .i64 n] 27)).alloc (.cells #[.int .u64 (hi q : Nat), .int .u64 (lo q : Nat), .int .i64 m] 27) = V at *
  obtain ⟨_, a0, a1, a2, b0, b1, b2⟩ := H.all
  go_region_held3 (fun W => PG w p n q m W ∧ W.cell? ⟨w.heap.size, 0, none⟩ = some (.int .u64 (hi p : Nat)) ∧ W.cell? ⟨w.heap.size, 1, none⟩ = some (.int .u64 (lo p : Nat)) ∧ W.cell? ⟨w.heap.size, 2, none⟩ = some (.int .i64 n) ∧
      W.cell? ⟨w.heap.size + 1, 0, none⟩ = some (.int .u64 (hi q : Nat)) ∧ W.cell? ⟨w.heap.size + 1, 1, none⟩ = some (.int .u64 (lo q : Nat)) ∧ W.cell? ⟨w.heap.size + 1, 2, none⟩ = some (.int .i64 m))
    (first
      | exact (H.step (grew_drew _)).all
      | exact H2.all
      | exact (H2.step (grew_alloc _ _)).all)
    (first
      | (go_at_call 42; refine (compareI_any _ _ _).mono ?_; rintro e w2 ⟨rfl, rfl⟩)
      | (go_at_call 86; refine (cmpG_any p q _).mono ?_; rintro e w2 ⟨rfl, hb2⟩; have H2 := (H.step (grew_drew _)).step hb2)
      | (go_at_call 41; refine (or_any _ (cmpI k j) (cmpS p q) (cmpI n m) _ (by simp [go_sem]) (by simp [go_sem]) (by simp [go_sem])).mono ?_; rintro e w5 ⟨rfl, rfl⟩))
  go_wp2
  go_ret
  exact ⟨congrArg Ending.returned (i64_eq R.out), (H2.step (grew_alloc _ _)).1.1, (H2.step (grew_alloc _ _)).2⟩
end Go.Proofs.YtpldkgollhbolaaGreat
namespace Go.Proofs.YtpldkgollhbolaaGreat
open Go.RowKit Go.Joins Go.Maps

instance : Inhabited Ls := ⟨zLs⟩
variable {w w' V W W' : World}
abbrev HoldsL (W : World) (g : Nat) (F : List Ls) : Prop := Go.Sort.HoldsK wdL 8 W g 0 F.toArray
theorem sort_fr (w : World) (g n : Nat) (d : Array Ls) (os : Array Obj) : Fr (fun k => k = g) w (Go.Proofs.sortWorldK wdL 8 w g 0 n d os) := by
  unfold Go.Proofs.sortWorldK Go.Sort.putRowK
  refine ⟨rfl, rfl, rfl, by simp [Go.Sort.ahead], fun k hk hn => ?_⟩
  have h1 : (Go.Sort.putRow id (Go.Sort.ahead w n) g 0 (Go.Sort.flatK wdL 8 d)).heap[k]? = w.heap[k]? := by
    unfold Go.Sort.putRow Go.Sort.mapBlock Go.Sort.ahead
    show (w.heap.modify g _)[k]? = _
    rw [Array.getElem?_modify, if_neg (fun e => hn e.symm)]
  unfold Go.Sort.grow
  show ((Go.Sort.putRow id (Go.Sort.ahead w n) g 0 (Go.Sort.flatK wdL 8 d)).heap ++ os)[k]? = _
  rw [Array.getElem?_append, if_pos (by rw [Go.Sort.size_putRow]; exact hk), h1]
theorem holds_block {g : Nat} {F : List Ls} (h : HoldsL W g F) {i : Nat} {x : Ls} (hx : F[i]? = some x) (c : Nat) (hc : c < 8) : W.cell? ⟨g, i * 8 + c, none⟩ = (wdL x)[c]? ∧ W.frozen? ⟨g, i * 8 + c, none⟩ = false := by
  obtain ⟨hi, rfl⟩ := List.getElem?_eq_some_iff.1 hx
  have := Go.Sort.HoldsK.cell h (i := i) (c := c) (by simpa using hi) hc
  rw [Nat.zero_add] at this
  refine ⟨?_, this.2⟩
  rw [this.1]
  have e : F.toArray[i]! = F[i] := by simp [hi]
  rw [e]
  have hl : (wdL F[i]).length = 8 := rfl
  rw [List.getElem?_eq_getElem (by omega)]
  simp [hc, hl]
theorem sort_any {f : Nat} {cf : Ls → Ls → Int} (eg : ∀ args w, (callFunc f args).run Tryz.prog w = .ok (.enter f args) w) (hc : ∀ x y W, Calls Tryz.prog f #[Lv x, Lv y] W (GivesG (.int .i64 (cf x y)) W)) (hO : Go.Sort.SWO (Go.Proofs.ltOf cf))
    {g cap : Nat} {F : List Ls} (hH : HoldsL w g F) (hg : g < w.heap.size) (hF : F.length ≤ 2000) :
    Calls Tryz.prog 39 #[.slice (some ⟨g, 0, none⟩) F.length cap, .func (.func f) #[] #[]] w fun e w' =>
      e = .returned (.tuple #[]) ∧ ∃ R, R.Perm F ∧ R.Pairwise (fun x y => Go.Proofs.ltOf cf y x = false) ∧ HoldsL w' g R ∧ Fr (fun k => k = g) w w' := by
  have hcmp : Go.Proofs.CmpLays Tryz.prog f #[] wdL 8 cf g 0 F.toArray.size w := fun m os dk _ x y => (hc x y _).mono fun e w' ⟨he, hg⟩ => ⟨he, hg.grow⟩
  have h := AnyQ.slices_SortFunc Tryz.sortL 8 Tryz.isAgg30 Tryz.sizeOf30 wdL (fun _ => rfl) (fun x v hv => by simp [wdL] at hv; rcases hv with rfl | rfl | rfl | rfl | rfl | rfl | rfl | rfl <;> rfl) cf hO f #[] g 0 cap F.toArray w eg hcmp hH hg (by simp; omega)
  change Calls Tryz.prog 39 _ _ _ at h
  rw [List.size_toArray] at h
  refine h.mono fun e w' ⟨he, d', n, os, hp, hs, hw⟩ => ⟨he, d'.toList, ?_, ?_, ?_, ?_⟩
  · obtain ⟨h1, h2, h3⟩ := hp
    have a : d'.extract 0 F.length = d' := by rw [Array.extract_eq_self_of_le]; simp at h1; omega
    have b : F.toArray.extract 0 F.length = F.toArray := by rw [Array.extract_eq_self_of_le]; simp
    rw [a, b] at h3
    simpa using h3
  · rw [List.pairwise_iff_getElem]
    intro i j hi hj hij
    have h1 := hp.1
    simp at hi hj h1
    have := hs i j (Nat.zero_le _) hij (by omega)
    rw [getElem!_pos d' j (by omega), getElem!_pos d' i (by omega)] at this
    simpa using this
  · rw [hw]
    have := Go.Proofs.holdsK_sortWorldK_c (enc := wdL) (k := 8) (w := w) (blk := g) (off := 0) F.toArray d' n os hH hg hp.1
    simpa [HoldsL] using this
  · rw [hw]; exact sort_fr w g n d' os
theorem sort_none (f : Nat) (p : Option Go.Addr) (cap : Nat) (w : World) : Calls Tryz.prog 39 #[.slice p 0 cap, .func (.func f) #[] #[]] w (Same (.tuple #[]) w) := by
  have h := AnyF.slices_SortFunc_none { Tryz.sortL with } p cap (.func (.func f) #[] #[]) w
  change Calls Tryz.prog 39 _ _ _ at h
  exact h.mono fun e w' ⟨he, hw⟩ => ⟨he, hw.symm⟩
end Go.Proofs.YtpldkgollhbolaaGreat
