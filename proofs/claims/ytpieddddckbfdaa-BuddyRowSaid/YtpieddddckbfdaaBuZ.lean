/-
  The library's sort of a row of prefixes by their addresses: the same prefixes, in order; the contract of Free. Conditions: the words are words of 64 bits, an int is an int of 64 bits; at most 200 prefixes.
-/
import Derived.Test.YtpieddddckbfdaaBuY
import Derived.Test.YtpieddddckbfdaaBuSo0
import Derived.Shelf.SlSortCmp.NoneTotal
namespace Go.Proofs.Ytpieddddckbfdaa
open Go.RowKit Go.Joins

abbrev HoldsP (W : World) (g : Nat) (F : List Bk) : Prop := Go.Sort.HoldsK cells3 3 W g 0 F.toArray
theorem sort_fr (w : World) (g n : Nat) (d : Array Bk) (os : Array Obj) {base : Nat} (hg : base ≤ g) (hb : base ≤ w.heap.size) : Below base w (Go.Proofs.sortWorldK cells3 3 w g 0 n d os) := by
  unfold Go.Proofs.sortWorldK Go.Sort.putRowK
  refine ⟨rfl, rfl, rfl, by simp [Go.Sort.ahead], fun k hk => ?_⟩
  have h1 : (Go.Sort.putRow id (Go.Sort.ahead w n) g 0 (Go.Sort.flatK cells3 3 d)).heap[k]? = w.heap[k]? := by
    unfold Go.Sort.putRow Go.Sort.mapBlock Go.Sort.ahead
    show (w.heap.modify g _)[k]? = _
    rw [Array.getElem?_modify, if_neg (by omega)]
  unfold Go.Sort.grow
  show ((Go.Sort.putRow id (Go.Sort.ahead w n) g 0 (Go.Sort.flatK cells3 3 d)).heap ++ os)[k]? = _
  rw [Array.getElem?_append, if_pos (by rw [Go.Sort.size_putRow]; have : (Go.Sort.ahead w n).heap.size = w.heap.size := rfl; omega), h1]
theorem sort_size (w : World) (g n : Nat) (d : Array Bk) (os : Array Obj) : w.heap.size ≤ (Go.Proofs.sortWorldK cells3 3 w g 0 n d os).heap.size := by
  unfold Go.Proofs.sortWorldK Go.Sort.putRowK
  simp [Go.Sort.ahead]
theorem holds_row {W : World} {g : Nat} {F : List Bk} (h : HoldsP W g F) (hg : g < W.heap.size) : RowR g 0 F W := by
  refine ⟨hg, fun j x hx => ?_⟩
  obtain ⟨hi, rfl⟩ := List.getElem?_eq_some_iff.1 hx
  have e : F.toArray[j]! = F[j] := by simp [hi]
  have C : ∀ c, c < 3 → W.cell? ⟨g, 0 + (j * 3 + c), none⟩ = some ((cells3 F[j])[c]!) := fun c hc => by
    have := (Go.Sort.HoldsK.cell h (i := j) (c := c) (by simpa using hi) hc).1
    rw [e] at this
    simpa [Nat.add_assoc] using this
  refine ⟨?_, ?_, ?_⟩
  · have := C 0 (by omega); simpa [cells3] using this
  · have := C 1 (by omega); simpa [cells3, Nat.add_assoc] using this
  · have := C 2 (by omega); simpa [cells3, Nat.add_assoc] using this
theorem holds_own {w : World} {base g cap : Nat} {F : List Bk} (h : Own w base (.slice (some ⟨g, 0, none⟩) F.length cap) F) : HoldsP w g F := by
  intro j hj
  have hj2 : j < F.length * 3 := by simpa using hj
  obtain ⟨x, hx⟩ : ∃ x, F[j / 3]? = some x := ⟨_, List.getElem?_eq_getElem (by omega)⟩
  refine ⟨?_, by rw [Nat.zero_add]; exact h.frozenAt j⟩
  rw [Nat.zero_add, h.cellAt j hj2]
  have e := cellsP_at hx (j % 3) (Nat.mod_lt _ (by omega))
  rw [show j / 3 * 3 + j % 3 = j by omega] at e
  rw [e, Go.Sort.get_flatK _ _ _ _ (by simpa using hj2)]
  obtain ⟨hl, rfl⟩ := List.getElem?_eq_some_iff.1 hx
  have e2 : F.toArray[j / 3]! = F[j / 3] := by simp [hl]
  rw [e2]
  have hl3 : (cells3 F[j / 3]).length = 3 := rfl
  have hm : j % 3 < 3 := Nat.mod_lt _ (by omega)
  rw [List.getElem?_eq_getElem (by omega)]
  simp [hl3, hm]
def cfP (x y : Bk) : Int := cmpS x.1 y.1
theorem lt_cfP (x y : Bk) : Go.Proofs.ltOf cfP x y = decide (x.1 < y.1) := cmp_lt x.1 y.1
theorem swo_cfP : Go.Sort.SWO (Go.Proofs.ltOf cfP) where
  irrefl x := by rw [lt_cfP]; simp
  trans x y z h1 h2 := by rw [lt_cfP, decide_eq_true_iff] at *; omega
  ntrans x y z h1 h2 := by rw [lt_cfP, decide_eq_false_iff_not] at *; omega
theorem enters_cmp (args : Array Value) (w : World) : (callFunc 47 args).run Try.prog w = .ok (.enter 47 args) w := enters_of Try.func47 (by kernel_rfl) rfl args w
/-- what the sort leaves -/
def Sorts (base : Nat) (v : Value) (F : List Bk) (w : World) (e : Ending) (w' : World) : Prop :=
  e = .returned (.tuple #[]) ∧ ∃ R, R.Perm F ∧ R.Pairwise (fun x y => x.1 ≤ y.1) ∧ Lst v R w' ∧ Below base w w'
theorem sort_some {w : World} {base g cap : Nat} {F : List Bk} (hO : Own w base (.slice (some ⟨g, 0, none⟩) F.length cap) F) (hb : base ≤ w.heap.size) (hF : F.length ≤ 2000) (hne : F ≠ []) :
    Calls Try.prog 46 #[.slice (some ⟨g, 0, none⟩) F.length cap, .func (.func 47) #[] #[]] w (Sorts base (.slice (some ⟨g, 0, none⟩) F.length cap) F w) := by
  obtain ⟨hg1, hg⟩ := hO.lt g rfl
  have hH := holds_own hO
  have hcmp : Go.Proofs.CmpLays Try.prog 47 #[] cells3 3 cfP g 0 F.toArray.size w := fun m os dk _ x y => (compare_g x y _).mono fun e w' ⟨he, hg⟩ => ⟨he, hg.grow⟩
  have h := AnyQ.slices_SortFunc Try.sortP 3 Try.isAgg26 Try.sizeOf26 cells3 (fun _ => rfl) (fun x v hv => by simp [cells3] at hv; rcases hv with rfl | rfl | rfl <;> rfl) cfP swo_cfP 47 #[] g 0 cap F.toArray w enters_cmp hcmp hH hg (by simp; omega)
  change Calls Try.prog 46 _ _ _ at h
  rw [List.size_toArray] at h
  refine h.mono fun e w' ⟨he, d', n, os, hp, hs, hw⟩ => ⟨he, d'.toList, ?_, ?_, ?_, ?_⟩
  · obtain ⟨h1, h2, h3⟩ := hp
    have a : d'.extract 0 F.length = d' := by rw [Array.extract_eq_self_of_le]; simp at h1; omega
    have b : F.toArray.extract 0 F.length = F.toArray := by rw [Array.extract_eq_self_of_le]; simp
    rw [a, b] at h3
    simpa using h3
  · rw [List.pairwise_iff_getElem]
    intro i j hi hj hij
    have h1 := hp.1
    simp at hi hj h1
    have := hs i j (Nat.zero_le _) hij (by omega)
    rw [getElem!_pos d' j (by omega), getElem!_pos d' i (by omega), lt_cfP, decide_eq_false_iff_not] at this
    simp only [Array.getElem_toList]
    omega
  · rw [hw]
    have h1 := hp.1
    simp at h1
    have hh := Go.Proofs.holdsK_sortWorldK_c (enc := cells3) (k := 3) (w := w) (blk := g) (off := 0) F.toArray d' n os hH hg hp.1
    have hl : d'.toList.length = F.length := by simpa using h1
    have hr : RowR g 0 d'.toList (Go.Proofs.sortWorldK cells3 3 w g 0 n d' os) := holds_row (by simpa [HoldsP] using hh) (Nat.lt_of_lt_of_le hg (sort_size _ _ _ _ _))
    rcases lst_cap (own_lst hO) with ⟨_, lc1, lc2, _⟩
    refine Or.inr ⟨g, 0, cap, by rw [hl], hr, by omega, fun e => ?_, lc2⟩
    rw [e] at hl
    exact hne (List.length_eq_zero_iff.1 hl.symm)
  · rw [hw]; exact sort_fr w g n d' os hg1 hb
theorem sort_none (p : Option Go.Addr) (cap : Nat) (w : World) : Calls Try.prog 46 #[.slice p 0 cap, .func (.func 47) #[] #[]] w (Same (.tuple #[]) w) := by
  have h := AnyF.slices_SortFunc_none { Try.sortP with } p cap (.func (.func 47) #[] #[]) w
  change Calls Try.prog 46 _ _ _ at h
  exact h.mono fun e w' ⟨he, hw⟩ => ⟨he, hw.symm⟩
theorem psort_any {w : World} {base : Nat} {v : Value} {F : List Bk} (hO : Own w base v F) (hb : base ≤ w.heap.size) (hF : F.length ≤ 2000) :
    Calls Try.prog 46 #[v, .func (.func 47) #[] #[]] w (Sorts base v F w) := by
  by_cases hne : F = []
  · subst hne
    obtain ⟨p, c, rfl⟩ := lst_len (own_lst hO)
    have hl := own_lst hO
    refine (sort_none p c w).mono fun e w' ⟨he, hw⟩ => ⟨he, [], List.Perm.refl _, List.Pairwise.nil, ?_, ?_⟩
    · rw [← hw]; exact hl
    · rw [← hw]; exact Below.refl _ _
  · have hO2 := hO
    rcases hO.2 with ⟨rfl, hn⟩ | ⟨g, cap, cur, rfl, _⟩
    · exact absurd (List.length_eq_zero_iff.1 hn) hne
    · exact sort_some hO2 hb hF hne
theorem Box.below {g : Nat} {x : Bk} {W w2 : World} {base : Nat} (h : Box g x W) (hg : g < base) (hb : Below base W w2) : Box g x w2 := by
  have c : ∀ o, w2.cell? ⟨g, o, none⟩ = W.cell? ⟨g, o, none⟩ := fun o => World.cell?_of_block (w := W) (hb.block g hg)
  have f : ∀ o, w2.frozen? ⟨g, o, none⟩ = W.frozen? ⟨g, o, none⟩ := fun o => World.frozen?_of_block (w := W) (hb.block g hg)
  unfold Box At
  rw [c, c, c, f, f, f]
  exact ⟨Nat.lt_of_lt_of_le h.1 hb.size, h.2⟩
/-! ### Free -/
theorem any_not (p : Bk) (l : List Bk) : l.any (fun x => !covB p x) = !l.all (covB p) := by
  induction l with
  | nil => rfl
  | cons x r ih => rw [List.any_cons, List.all_cons, ih, Bool.not_and]
theorem free_bad {p : Bk} {l : List Bk} (h : sndB p = false ∨ l.all (covB p) = false) : freeL p l = ([], 1) := by
  unfold freeL
  rw [if_neg]
  rw [Bool.and_eq_true]
  rintro ⟨h1, h2⟩
  rcases h with h | h
  · rw [h] at h1; cases h1
  · rw [h] at h2; cases h2
theorem free_met {p : Bk} {l : List Bk} (h1 : sndB p = true) (h2 : l.all (covB p) = true) (h3 : metsL l = true) : freeL p l = ([], 110) := by
  unfold freeL
  rw [h1, h2, h3]
  rfl
theorem free_ok {p : Bk} {l R : List Bk} (h1 : sndB p = true) (h2 : l.all (covB p) = true) (hp : R.Perm l) (ho : OrdL p R) : freeL p l = (carveL 129 p R, 0) := by
  have h3 : metsL l = false := by rw [← mets_perm hp]; exact ord_mets ho
  have e : R = sortB l := ord_perm ho (sort_ord (fun x hx => List.all_eq_true.1 h2 x hx) h3) (hp.trans (sort_perm l).symm)
  unfold freeL
  rw [h1, h2, h3, e]
  rfl
set_option maxRecDepth 100000 in
set_option maxHeartbeats 2000000 in
theorem free_any {v : Value} {p : Bk} {l : List Bk} (fp : FitB p) (hf : FitL l) (hl : l.length ≤ 200) (w : World) (hv : Lst v l w) :
    Calls Try.prog 19 #[Bv p, v] w (GivesE (freeL p l) w) := by
  have SP := hide (fun W => sound_any (p := p.1) fp.1 p.2 W)
  have CF := hide (fun W (H : HV w p v l W) => contains_any 44 #[.pointer (some ⟨w.heap.size, 0, none⟩)] (fun x => !covB p x) (show l.length ≤ 1000000 by omega) W H.2.2 enters_free
    (fun W2 HB x hx => free1_any (hf x hx) W2 (H.2.1.step HB)))
  rw [any_not] at CF
  have CN := hide (fun W v (H : Lst v l W) => clone_any (show l.length ≤ 1000000 by omega) W H)
  have H0 := hv_new w p hv
  obtain ⟨q, c, rfl⟩ := lst_len hv
  clear hv
  cases hs : sndB p with
  | false =>
    rw [show soundS p.1 p.2 = false from hs] at SP
    rw [free_bad (Or.inl hs)]
    clear hs CF CN
    go_enter Try.func19, Try.ntmps19
    obtain ⟨_, ⟨z, ⟨x1, x2, x3⟩, _⟩, _⟩ := id H0
    go_wp2_with fail
    clear z x1 x2 x3
    refine (SP.out _).mono ?_
    rintro e w1 ⟨rfl, hb1⟩
    have H1 := H0.step hb1
    clear H0 hb1
    go_wp2
    go_ret2
    exact ⟨_, rfl, H1.1, own_nil _ _⟩
  | true =>
    rw [show soundS p.1 p.2 = true from hs] at SP
    cases hc : l.all (covB p) with
    | false =>
      rw [hc] at CF
      rw [free_bad (Or.inr hc)]
      clear hs hc CN
      go_enter Try.func19, Try.ntmps19
      obtain ⟨_, ⟨z, ⟨x1, x2, x3⟩, _⟩, _⟩ := id H0
      go_wp2_with fail
      clear z x1 x2 x3
      refine (SP.out _).mono ?_
      rintro e w1 ⟨rfl, hb1⟩
      have H1 := H0.step hb1
      clear H0 hb1
      go_wp2_with fail
      refine (CF.out _ H1).mono ?_
      rintro e w2 ⟨rfl, hb2⟩
      have H2 := H1.step hb2
      clear H1 hb2
      go_wp2
      go_ret2
      exact ⟨_, rfl, H2.1, own_nil _ _⟩
    | true =>
      rw [hc] at CF
      go_enter Try.func19, Try.ntmps19
      obtain ⟨_, ⟨z, ⟨x1, x2, x3⟩, _⟩, _⟩ := id H0
      have HS := hide hs
      have HC := hide hc
      clear hs hc
      go_wp2_with fail
      clear z x1 x2 x3
      refine (SP.out _).mono ?_
      rintro e w1 ⟨rfl, hb1⟩
      have H1 := H0.step hb1
      clear H0 hb1
      go_wp2_with fail
      refine (CF.out _ H1).mono ?_
      rintro e w2 ⟨rfl, hb2⟩
      have H2 := H1.step hb2
      clear H1 hb2
      go_wp2_with fail
      refine (CN.out _ _ H2.2.2).mono ?_
      rintro e w3 ⟨v3, rfl, hb3, O3⟩
      have B3 := chain H2.1 hb3
      have X3 := H2.2.1.step hb3
      have z3 := H2.2.1.1
      have PS := psort_any O3 hb3.size (by omega)
      clear H2 hb3 CF CN SP
      go_wp2_with fail
      refine PS.mono ?_
      rintro e w4 ⟨rfl, R, hp, hr, hL, hb4⟩
      have B4 : Below w.heap.size w w4 := B3.trans ⟨hb4.os, hb4.tape, hb4.output, hb4.size, fun k hk => hb4.block k (by omega)⟩
      have X4 := X3.below z3 hb4
      have fR : FitL R := fun x hx => hf x (hp.subset hx)
      have cR : Hid (∀ x ∈ R, covB p x = true) := hide (fun x hx => List.all_eq_true.1 HC.out x (hp.subset hx))
      have H4 : HV w p v3 R w4 := ⟨B4, X4, hL⟩
      have HP := hide hp
      have HR := hide hr
      have nR : R.length ≤ 200 := by rw [hp.length_eq]; exact hl
      clear hp hr hL hb4 B3 B4 X3 X4 PS O3 z3
      obtain ⟨q3, c3, rfl⟩ := lst_len H4.2.2
      go_wp2
      go_loopw [7] (fun i wr => ∃ k : Nat, 1 ≤ k ∧ k ≤ R.length + 1 ∧ i = .int .i64 (k : Nat) ∧ (∀ j, j + 1 < k → metB (R.getD j (0, 0)) (R.getD (j + 1) (0, 0)) = false) ∧ HV w p (.slice q3 R.length c3) R wr) (fun i _ => R.length + 1 - (intOf i).toNat)
      case atStart => exact ⟨1, Nat.le_refl _, by omega, rfl, fun j h => by omega, H4⟩
      case round =>
        obtain ⟨k, k1, kn, rfl, hg, HB⟩ := hrel
        clear H4
        have HG := hide hg
        clear hg
        by_cases hlt : k < R.length
        · obtain ⟨x, hx⟩ := get_some hlt
          obtain ⟨y, hy⟩ := get_some (show k - 1 < R.length by omega)
          have fx := fit_at fR hx
          have fy := fit_at fR hy
          have GX := hide (getD_some hx)
          have GY := hide (getD_some hy)
          obtain ⟨b, o, rfl, _⟩ := lst_at HB.2.2 hx
          have HX := hide (fun W (H : HV w p (.slice (some ⟨b, o, none⟩) R.length c3) R W) => lst_at H.2.2 hx)
          have HY := hide (fun W (H : HV w p (.slice (some ⟨b, o, none⟩) R.length c3) R W) => lst_at H.2.2 hy)
          have ME := hide (fun W => meets_any fy.1 fx.1 y.2 x.2 W)
          have B0 : 0 ≤ (k : Int) - 1 := by omega
          have B1 : 1 ≤ (k : Int) := by omega
          have WS : IntKind.i64.wrap ((k : Int) - 1) = (k : Int) - 1 := IntWalk.i64_in _ ⟨by omega, by omega⟩
          have BL : (k : Int) - 1 < (R.length : Int) := by omega
          have BN : ((k : Int) - 1).toNat = k - 1 := by omega
          clear hx hy
          cases em : metB y x with
          | true =>
            rw [show meetsS y.1 y.2 x.1 x.2 = true from em] at ME
            have RE := hide (show freeL p l = ([], 110) from free_met HS.out HC.out (by
              rw [← mets_perm HP.out]
              exact mets_pair (i := k - 1) (j := k) (by omega) hlt (by rw [GX.out, GY.out]; exact em)))
            clear em
            go_wp2_with fail
            refine wp_region_quiet (C := HV w p (.slice (some ⟨b, o, none⟩) R.length c3) R) (by kernel_rfl) (by kernel_rfl) HB.drew (wpQuiet_step (fun K0 hK0 => ?_))
            go_simp
            first | (with_reducible refine hK0 _ (wpQuiet_step (fun K1 hK1 => ?_))) | (with_reducible refine ⟨_, fun _ _ => rfl, hK0 _ (wpQuiet_step (fun K1 hK1 => ?_))⟩) | (rw [if_neg (by intro e; cases e)]; with_reducible refine hK0 _ (wpQuiet_step (fun K1 hK1 => ?_)))
            clear hK0 K0
            go_simp
            first | (with_reducible refine hK1 _ (wpQuiet_step (fun K0 hK0 => ?_))) | (with_reducible refine ⟨_, fun _ _ => rfl, hK1 _ (wpQuiet_step (fun K0 hK0 => ?_))⟩) | (rw [if_neg (by intro e; cases e)]; with_reducible refine hK1 _ (wpQuiet_step (fun K0 hK0 => ?_)))
            clear hK1 K1
            go_simp
            first | (with_reducible refine hK0 _ (wpQuiet_step (fun K1 hK1 => ?_))) | (with_reducible refine ⟨_, fun _ _ => rfl, hK0 _ (wpQuiet_step (fun K1 hK1 => ?_))⟩) | (rw [if_neg (by intro e; cases e)]; with_reducible refine hK0 _ (wpQuiet_step (fun K1 hK1 => ?_)))
            clear hK0 K0
            go_simp
            first | (with_reducible refine hK1 _ (wpQuiet_step (fun K0 hK0 => ?_))) | (with_reducible refine ⟨_, fun _ _ => rfl, hK1 _ (wpQuiet_step (fun K0 hK0 => ?_))⟩) | (rw [if_neg (by intro e; cases e)]; with_reducible refine hK1 _ (wpQuiet_step (fun K0 hK0 => ?_)))
            clear hK1 K1
            go_simp
            refine ⟨Bv y, fun W hW => ?_, hK0 _ (wpQuiet_step (fun K1 hK1 => ?_))⟩
            · ((obtain ⟨_, _, eb, _, u0, u1, u2⟩ := HY.out W hW; cases eb; simp [go_sem, u0, u1, u2]))
            clear hK0 K0
            go_simp
            first | (with_reducible refine hK1 _ (wpQuiet_step (fun K0 hK0 => ?_))) | (with_reducible refine ⟨_, fun _ _ => rfl, hK1 _ (wpQuiet_step (fun K0 hK0 => ?_))⟩) | (rw [if_neg (by intro e; cases e)]; with_reducible refine hK1 _ (wpQuiet_step (fun K0 hK0 => ?_)))
            clear hK1 K1
            go_simp
            first | (with_reducible refine hK0 _ (wpQuiet_step (fun K1 hK1 => ?_))) | (with_reducible refine ⟨_, fun _ _ => rfl, hK0 _ (wpQuiet_step (fun K1 hK1 => ?_))⟩) | (rw [if_neg (by intro e; cases e)]; with_reducible refine hK0 _ (wpQuiet_step (fun K1 hK1 => ?_)))
            clear hK0 K0
            go_simp
            first | (with_reducible refine hK1 _ (wpQuiet_step (fun K0 hK0 => ?_))) | (with_reducible refine ⟨_, fun _ _ => rfl, hK1 _ (wpQuiet_step (fun K0 hK0 => ?_))⟩) | (rw [if_neg (by intro e; cases e)]; with_reducible refine hK1 _ (wpQuiet_step (fun K0 hK0 => ?_)))
            clear hK1 K1
            go_simp
            refine ⟨Bv x, fun W hW => ?_, hK0 _ (wpQuiet_step (fun K1 hK1 => ?_))⟩
            · ((obtain ⟨_, _, eb, _, u0, u1, u2⟩ := HX.out W hW; cases eb; simp [go_sem, u0, u1, u2]))
            clear hK0 K0
            go_simp
            refine ⟨.bool true, fun W hW => ?_, hK1 _ (wpQuiet_nil ?_)⟩
            · exact (ME.out W).mono fun e w2 ⟨he, hb⟩ => ⟨he, HV.step hW hb⟩
            clear hK1 K1
            intro w5 H5
            go_wp2
            go_ret2
            rw [RE.out]
            exact ⟨_, rfl, H5.1, own_nil _ _⟩
          | false =>
            rw [show meetsS y.1 y.2 x.1 x.2 = false from em] at ME
            have EM := hide em
            clear em
            go_wp2_with fail
            refine wp_region_quiet (C := HV w p (.slice (some ⟨b, o, none⟩) R.length c3) R) (by kernel_rfl) (by kernel_rfl) HB.drew (wpQuiet_step (fun K0 hK0 => ?_))
            go_simp
            first | (with_reducible refine hK0 _ (wpQuiet_step (fun K1 hK1 => ?_))) | (with_reducible refine ⟨_, fun _ _ => rfl, hK0 _ (wpQuiet_step (fun K1 hK1 => ?_))⟩) | (rw [if_neg (by intro e; cases e)]; with_reducible refine hK0 _ (wpQuiet_step (fun K1 hK1 => ?_)))
            clear hK0 K0
            go_simp
            first | (with_reducible refine hK1 _ (wpQuiet_step (fun K0 hK0 => ?_))) | (with_reducible refine ⟨_, fun _ _ => rfl, hK1 _ (wpQuiet_step (fun K0 hK0 => ?_))⟩) | (rw [if_neg (by intro e; cases e)]; with_reducible refine hK1 _ (wpQuiet_step (fun K0 hK0 => ?_)))
            clear hK1 K1
            go_simp
            first | (with_reducible refine hK0 _ (wpQuiet_step (fun K1 hK1 => ?_))) | (with_reducible refine ⟨_, fun _ _ => rfl, hK0 _ (wpQuiet_step (fun K1 hK1 => ?_))⟩) | (rw [if_neg (by intro e; cases e)]; with_reducible refine hK0 _ (wpQuiet_step (fun K1 hK1 => ?_)))
            clear hK0 K0
            go_simp
            first | (with_reducible refine hK1 _ (wpQuiet_step (fun K0 hK0 => ?_))) | (with_reducible refine ⟨_, fun _ _ => rfl, hK1 _ (wpQuiet_step (fun K0 hK0 => ?_))⟩) | (rw [if_neg (by intro e; cases e)]; with_reducible refine hK1 _ (wpQuiet_step (fun K0 hK0 => ?_)))
            clear hK1 K1
            go_simp
            refine ⟨Bv y, fun W hW => ?_, hK0 _ (wpQuiet_step (fun K1 hK1 => ?_))⟩
            · ((obtain ⟨_, _, eb, _, u0, u1, u2⟩ := HY.out W hW; cases eb; simp [go_sem, u0, u1, u2]))
            clear hK0 K0
            go_simp
            first | (with_reducible refine hK1 _ (wpQuiet_step (fun K0 hK0 => ?_))) | (with_reducible refine ⟨_, fun _ _ => rfl, hK1 _ (wpQuiet_step (fun K0 hK0 => ?_))⟩) | (rw [if_neg (by intro e; cases e)]; with_reducible refine hK1 _ (wpQuiet_step (fun K0 hK0 => ?_)))
            clear hK1 K1
            go_simp
            first | (with_reducible refine hK0 _ (wpQuiet_step (fun K1 hK1 => ?_))) | (with_reducible refine ⟨_, fun _ _ => rfl, hK0 _ (wpQuiet_step (fun K1 hK1 => ?_))⟩) | (rw [if_neg (by intro e; cases e)]; with_reducible refine hK0 _ (wpQuiet_step (fun K1 hK1 => ?_)))
            clear hK0 K0
            go_simp
            first | (with_reducible refine hK1 _ (wpQuiet_step (fun K0 hK0 => ?_))) | (with_reducible refine ⟨_, fun _ _ => rfl, hK1 _ (wpQuiet_step (fun K0 hK0 => ?_))⟩) | (rw [if_neg (by intro e; cases e)]; with_reducible refine hK1 _ (wpQuiet_step (fun K0 hK0 => ?_)))
            clear hK1 K1
            go_simp
            refine ⟨Bv x, fun W hW => ?_, hK0 _ (wpQuiet_step (fun K1 hK1 => ?_))⟩
            · ((obtain ⟨_, _, eb, _, u0, u1, u2⟩ := HX.out W hW; cases eb; simp [go_sem, u0, u1, u2]))
            clear hK0 K0
            go_simp
            refine ⟨.bool false, fun W hW => ?_, hK1 _ (wpQuiet_nil ?_)⟩
            · exact (ME.out W).mono fun e w2 ⟨he, hb⟩ => ⟨he, HV.step hW hb⟩
            clear hK1 K1
            intro w5 H5
            go_wp2
            go_roundw
            case rel =>
              refine ⟨k + 1, by omega, by omega, by go_num, fun j hj => ?_, H5⟩
              by_cases e : j + 1 = k
              · have e2 : j = k - 1 := by omega
                rw [e, e2, GX.out, GY.out]
                exact EM.out
              · exact HG.out j (by omega)
            case measure => simp [intOf]; omega
        · have OR := adj_mets cR.out HR.out (fun j hj => HG.out j (by omega))
          obtain ⟨⟨z0, z1⟩, _⟩ := snd_iff.1 HS.out
          have RE := hide (free_ok HS.out HC.out HP.out OR)
          have CA := hide (fun W v (H : Lst v R W) => carve_any 129 p R fp.1 HS.out (by omega) OR nR W H)
          clear OR z0 z1
          generalize carveL 129 p R = M at *
          obtain ⟨_, ⟨z, ⟨x1, x2, x3⟩, _⟩, _⟩ := id HB
          go_wp2_with fail
          clear z x1 x2 x3
          refine (CA.out _ _ HB.2.2).mono ?_
          rintro e w6 ⟨v6, rfl, hb6, O6⟩
          have HB6 := chain HB.1 hb6
          have O7 := own_base O6 HB.1.size
          clear hb6 O6 HB CA
          go_wp2
          go_ret2
          rw [RE.out]
          exact ⟨_, rfl, HB6, O7⟩
end Go.Proofs.Ytpieddddckbfdaa
