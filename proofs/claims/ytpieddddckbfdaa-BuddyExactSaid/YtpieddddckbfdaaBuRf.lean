/-
  Contract of the document's own Free. Conditions: the words are words of 64 bits, an int is an int of 64 bits; at most 1000 prefixes.
-/
import Derived.Test.YtpieddddckbfdaaBuRs
import Derived.Test.YtpieddddckbfdaaBuRr
import Derived.Test.YtpieddddckbfdaaBuZ
import Derived.Test.YtpieddddckbfdaaBuK
namespace Go.Proofs.Ytpieddddckbfdaa
open Go.RowKit Go.Joins

theorem all_yes {P : Bk → Bool} {l : List Bk} (h : ∀ j, j < l.length → P (l.getD j (0, 0)) = true) : l.all P = true := by
  rw [List.all_eq_true]
  intro x hx
  obtain ⟨j, hj, rfl⟩ := List.getElem_of_mem hx
  have := h j hj
  rwa [List.getD_eq_getElem?_getD, List.getElem?_eq_getElem hj] at this
theorem all_no {P : Bk → Bool} {l : List Bk} {k : Nat} {x : Bk} (hx : l[k]? = some x) (h : P x = false) : l.all P = false := by
  rw [List.all_eq_false]
  exact ⟨x, List.mem_of_getElem? hx, by simp [h]⟩
theorem next_yes {P : Nat → Bool} {k : Nat} (h : P k = true) (hg : ∀ j, j < k → P j = true) : ∀ j, j < k + 1 → P j = true := by
  intro j hj
  by_cases e : j = k
  · rw [e]; exact h
  · exact hg j (by omega)
theorem next_nil {P : Nat → Bool} {k : Nat} (h : P k = false) (hg : ∀ j, j < k → P j = false) : ∀ j, j < k + 1 → P j = false := by
  intro j hj
  by_cases e : j = k
  · rw [e]; exact h
  · exact hg j (by omega)
theorem mets_yes {l : List Bk} {k : Nat} {x : Bk} (hx : l[k]? = some x) (h : anyM (l.take k) x = true) : metsL l = true := by
  obtain ⟨y, hy, hm⟩ := anyM_iff.1 h
  obtain ⟨i, hi, rfl⟩ := List.getElem_of_mem hy
  rw [List.length_take] at hi
  rw [List.getElem_take] at hm
  refine mets_pair (i := i) (j := k) (by omega) (lt_of_some hx) ?_
  rw [getD_some hx, List.getD_eq_getElem?_getD, List.getElem?_eq_getElem (by omega)]
  exact hm
theorem mets_no {l : List Bk} (h : ∀ j, j < l.length → anyM (l.take j) (l.getD j (0, 0)) = false) : metsL l = false := by
  rw [mets_iff, List.pairwise_iff_getElem]
  intro i j hi hj hij
  have h1 := h j hj
  cases e : metB l[i] l[j] with
  | false => rfl
  | true =>
    rw [List.getD_eq_getElem?_getD, List.getElem?_eq_getElem hj] at h1
    have : anyM (l.take j) l[j] = true := anyM_iff.2 ⟨l[i], by rw [List.mem_take_iff_getElem]; exact ⟨i, by omega, rfl⟩, e⟩
    simp only [Option.getD_some] at h1
    rw [this] at h1; cases h1
theorem fit_take {l : List Bk} (h : FitL l) (k : Nat) : FitL (l.take k) := fun x hx => h x (List.mem_of_mem_take hx)
theorem rfree_bad {p : Bk} {l : List Bk} (h : sndB p = false ∨ l.all (covB p) = false) : rfreeL p l = ([], 1) := by
  rw [rfree_eq]
  exact free_bad h
theorem rfree_met {p : Bk} {l : List Bk} (h1 : sndB p = true) (h2 : l.all (covB p) = true) (h3 : metsL l = true) : rfreeL p l = ([], 110) := by
  rw [rfree_eq]
  exact free_met h1 h2 h3
theorem rfree_ok {p : Bk} {l : List Bk} (h1 : sndB p = true) (h2 : l.all (covB p) = true) (h3 : metsL l = false) : rfreeL p l = (restL 129 p [p] l, 0) := by
  unfold rfreeL
  rw [h1, h2, h3]
  rfl
set_option maxRecDepth 100000 in
set_option maxHeartbeats 4000000 in
theorem rfree_any {v : Value} {p : Bk} {l : List Bk} (fp : FitB p) (hf : FitL l) (hl : l.length ≤ 1000) (w : World) (hv : Lst v l w) :
    Calls Try.prog 20 #[Bv p, v] w (GivesE (freeL p l) w) := by
  rw [← rfree_eq]
  have SP := hide (fun W => rsound_any (p := p.1) fp.1 p.2 W)
  have RS := hide (fun W va vb (H : Lst va [p] W) (K : Lst vb l W) => rest_any 128 p fp (fit_one fp) hf (show [p].length ≤ 1500 by simp) (show l.length ≤ 1500 by omega) (fun _ => by omega) W H K)
  have H0 := hsk_new w p hv
  obtain ⟨q, c, rfl⟩ := lst_len hv
  clear hv
  cases hs : sndB p with
  | false =>
    rw [rfree_bad (Or.inl hs)]
    rw [show soundS p.1 p.2 = false from hs] at SP
    clear hs RS
    go_enter Try.func20, Try.ntmps20
    obtain ⟨_, ⟨z, ⟨u0, u1, u2⟩, _⟩, _⟩ := id H0
    go_wp2_with fail
    clear z u0 u1 u2
    refine (SP.out _).mono ?_
    rintro e w1 ⟨rfl, hb1⟩
    have HB := chain H0.1 hb1
    clear H0 hb1
    go_wp2
    go_ret2
    exact ⟨_, rfl, HB, own_nil _ _⟩
  | true =>
    have B1 := hide (fun h => rfree_bad (p := p) (l := l) (Or.inr h))
    have B2 := hide (rfree_met (p := p) (l := l) hs)
    have B3 := hide (rfree_ok (p := p) (l := l) hs)
    change Hid (l.all (covB p) = true → metsL l = false → rfreeL p l = (restL (128 + 1) p [p] l, 0)) at B3
    generalize restL (128 + 1) p [p] l = M at *
    generalize rfreeL p l = RF at *
    rw [show soundS p.1 p.2 = true from hs] at SP
    clear hs
    go_enter Try.func20, Try.ntmps20
    obtain ⟨_, ⟨z, ⟨u0, u1, u2⟩, _⟩, _⟩ := id H0
    go_wp2_with fail
    clear z u0 u1 u2
    refine (SP.out _).mono ?_
    rintro e w1 ⟨rfl, hb1⟩
    have H1 := H0.step hb1
    clear H0 hb1 SP
    go_wp2_with fail
    go_loopw [6] (fun i wr => ∃ k : Nat, k ≤ l.length ∧ i = .int .i64 (k : Nat) ∧ (∀ j, j < k → covB p (l.getD j (0, 0)) = true) ∧ HSk w p (.slice q l.length c) l wr) (fun i _ => l.length - (intOf i).toNat)
    case atStart => exact ⟨0, Nat.zero_le _, rfl, fun j h => absurd h (Nat.not_lt_zero _), H1⟩
    case round =>
      obtain ⟨k, hk, rfl, hg, HB⟩ := hrel
      have HG := hide hg
      clear hg H1
      by_cases hlt : k < l.length
      · obtain ⟨x, hx⟩ := get_some hlt
        have fx := fit_at hf hx
        have GX := hide (getD_some hx)
        have AN := hide (fun h => all_no (P := covB p) hx h)
        have CV := hide (fun W => rcovers_any (p := p.1) fp.1 fx.1 p.2 x.2 W)
        obtain ⟨b, o, rfl, _⟩ := lst_at HB.2.2 hx
        have HX := hide (fun W (H : HSk w p (.slice (some ⟨b, o, none⟩) l.length c) l W) => lst_at H.2.2 hx)
        clear hx
        cases e1 : covB p x with
        | false =>
          have R := hide (B1.out (AN.out e1))
          rw [show coversS p.1 p.2 x.1 x.2 = false from e1] at CV
          clear e1
          go_wp2_with fail
          refine wp_region_quiet (C := HSk w p (.slice (some ⟨b, o, none⟩) l.length c) l) (by kernel_rfl) (by kernel_rfl) (HB.step (Below.refl _ _).drew) (wpQuiet_step (fun K0 hK0 => ?_))
          go_simp
          refine ⟨Bv p, fun W hW => ?_, hK0 _ (wpQuiet_step (fun K1 hK1 => ?_))⟩
          · ((obtain ⟨_, ⟨_, ⟨u0, u1, u2⟩, _⟩, _⟩ := hW; simp [go_sem, u0, u1, u2]))
          clear hK0 K0
          go_simp
          first | (with_reducible refine hK1 _ (wpQuiet_step (fun K0 hK0 => ?_))) | (with_reducible refine ⟨_, fun _ _ => rfl, hK1 _ (wpQuiet_step (fun K0 hK0 => ?_))⟩) | (rw [if_neg (by intro e; cases e)]; with_reducible refine hK1 _ (wpQuiet_step (fun K0 hK0 => ?_)))
          clear hK1 K1
          go_simp
          first | (with_reducible refine hK0 _ (wpQuiet_step (fun K1 hK1 => ?_))) | (with_reducible refine ⟨_, fun _ _ => rfl, hK0 _ (wpQuiet_step (fun K1 hK1 => ?_))⟩) | (rw [if_neg (by intro e; cases e)]; with_reducible refine hK0 _ (wpQuiet_step (fun K1 hK1 => ?_)))
          clear hK0 K0
          go_simp
          first | (with_reducible refine hK1 _ (wpQuiet_step (fun K0 hK0 => ?_))) | (with_reducible refine ⟨_, fun _ _ => rfl, hK1 _ (wpQuiet_step (fun K0 hK0 => ?_))⟩) | (rw [if_neg (by intro e; cases e)]; with_reducible refine hK1 _ (wpQuiet_step (fun K0 hK0 => ?_)))
          clear hK1 K1
          go_simp
          refine ⟨Bv x, fun W hW => ?_, hK0 _ (wpQuiet_step (fun K1 hK1 => ?_))⟩
          · ((obtain ⟨_, _, eb, _, u0, u1, u2⟩ := HX.out W hW; cases eb; simp [go_sem, u0, u1, u2]))
          clear hK0 K0
          go_simp
          refine ⟨.bool false, fun W hW => ?_, hK1 _ (wpQuiet_step (fun K0 hK0 => ?_))⟩
          · exact (CV.out W).mono fun e w2 ⟨he, hb⟩ => ⟨he, HSk.step hW hb⟩
          clear hK1 K1
          go_simp
          first | (with_reducible refine hK0 _ (wpQuiet_nil ?_)) | (with_reducible refine ⟨_, fun _ _ => rfl, hK0 _ (wpQuiet_nil ?_)⟩) | (rw [if_neg (by intro e; cases e)]; with_reducible refine hK0 _ (wpQuiet_nil ?_))
          clear hK0 K0
          intro w2 H2
          go_wp2
          go_ret2
          rw [R.out]
          exact ⟨_, rfl, H2.1, own_nil _ _⟩
        | true =>
          have E1 := hide e1
          rw [show coversS p.1 p.2 x.1 x.2 = true from e1] at CV
          clear e1
          go_wp2_with fail
          refine wp_region_quiet (C := HSk w p (.slice (some ⟨b, o, none⟩) l.length c) l) (by kernel_rfl) (by kernel_rfl) (HB.step (Below.refl _ _).drew) (wpQuiet_step (fun K0 hK0 => ?_))
          go_simp
          refine ⟨Bv p, fun W hW => ?_, hK0 _ (wpQuiet_step (fun K1 hK1 => ?_))⟩
          · ((obtain ⟨_, ⟨_, ⟨u0, u1, u2⟩, _⟩, _⟩ := hW; simp [go_sem, u0, u1, u2]))
          clear hK0 K0
          go_simp
          first | (with_reducible refine hK1 _ (wpQuiet_step (fun K0 hK0 => ?_))) | (with_reducible refine ⟨_, fun _ _ => rfl, hK1 _ (wpQuiet_step (fun K0 hK0 => ?_))⟩) | (rw [if_neg (by intro e; cases e)]; with_reducible refine hK1 _ (wpQuiet_step (fun K0 hK0 => ?_)))
          clear hK1 K1
          go_simp
          first | (with_reducible refine hK0 _ (wpQuiet_step (fun K1 hK1 => ?_))) | (with_reducible refine ⟨_, fun _ _ => rfl, hK0 _ (wpQuiet_step (fun K1 hK1 => ?_))⟩) | (rw [if_neg (by intro e; cases e)]; with_reducible refine hK0 _ (wpQuiet_step (fun K1 hK1 => ?_)))
          clear hK0 K0
          go_simp
          first | (with_reducible refine hK1 _ (wpQuiet_step (fun K0 hK0 => ?_))) | (with_reducible refine ⟨_, fun _ _ => rfl, hK1 _ (wpQuiet_step (fun K0 hK0 => ?_))⟩) | (rw [if_neg (by intro e; cases e)]; with_reducible refine hK1 _ (wpQuiet_step (fun K0 hK0 => ?_)))
          clear hK1 K1
          go_simp
          refine ⟨Bv x, fun W hW => ?_, hK0 _ (wpQuiet_step (fun K1 hK1 => ?_))⟩
          · ((obtain ⟨_, _, eb, _, u0, u1, u2⟩ := HX.out W hW; cases eb; simp [go_sem, u0, u1, u2]))
          clear hK0 K0
          go_simp
          refine ⟨.bool true, fun W hW => ?_, hK1 _ (wpQuiet_step (fun K0 hK0 => ?_))⟩
          · exact (CV.out W).mono fun e w2 ⟨he, hb⟩ => ⟨he, HSk.step hW hb⟩
          clear hK1 K1
          go_simp
          first | (with_reducible refine hK0 _ (wpQuiet_nil ?_)) | (with_reducible refine ⟨_, fun _ _ => rfl, hK0 _ (wpQuiet_nil ?_)⟩) | (rw [if_neg (by intro e; cases e)]; with_reducible refine hK0 _ (wpQuiet_nil ?_))
          clear hK0 K0
          intro w2 H2
          go_wp2
          go_roundw
          case rel => exact ⟨k + 1, hlt, by go_num, next_yes (P := fun j => covB p (l.getD j (0, 0))) (show covB p (l.getD k (0, 0)) = true by rw [GX.out]; exact E1.out) HG.out, H2⟩
          case measure => simp [intOf]; omega
      · have AL := hide (all_yes (P := covB p) (l := l) (fun j hj => HG.out j (by omega)))
        clear HG
        have H2 := HB
        clear HB
        go_wp2_with fail
        clear hk hlt
        go_loopw [7] (fun i wr => ∃ k : Nat, k ≤ l.length ∧ i = .int .i64 (k : Nat) ∧ (∀ j, j < k → anyM (l.take j) (l.getD j (0, 0)) = false) ∧ HSk w p (.slice q l.length c) l wr) (fun i _ => l.length - (intOf i).toNat)
        case atStart => exact ⟨0, Nat.zero_le _, rfl, fun j h => absurd h (Nat.not_lt_zero _), H2⟩
        case round =>
          obtain ⟨k, hk, rfl, hg, HB⟩ := hrel
          have HG := hide hg
          clear hg H2
          by_cases hlt : k < l.length
          · obtain ⟨x, hx⟩ := get_some hlt
            have fx := fit_at hf hx
            have GX := hide (getD_some hx)
            have MY := hide (fun h => mets_yes hx h)
            have MT := hide (fun W v (H : Lst v (l.take k) W) => rmet_any (fit_take hf k) fx (show (l.take k).length ≤ 1000000 by rw [List.length_take]; omega) W H)
            obtain ⟨_, lc1, lc2, _⟩ := lst_cap HB.2.2
            obtain ⟨b, o, rfl, _⟩ := lst_at HB.2.2 hx
            have HX := hide (fun W (H : HSk w p (.slice (some ⟨b, o, none⟩) l.length c) l W) => lst_at H.2.2 hx)
            have TK := hide (fun W (H : HSk w p (.slice (some ⟨b, o, none⟩) l.length c) l W) => lst_take H.2.2 (show k ≤ l.length by omega))
            have kc : k ≤ c := by omega
            clear hx
            cases e1 : anyM (l.take k) x with
            | true =>
              have R := hide (B2.out AL.out (MY.out e1))
              rw [e1] at MT
              clear e1
              generalize l.take k = lk at *
              go_wp2_with fail
              refine wp_region_quiet (C := HSk w p (.slice (some ⟨b, o, none⟩) l.length c) l) (by kernel_rfl) (by kernel_rfl) (HB.step (Below.refl _ _).drew) (wpQuiet_step (fun K0 hK0 => ?_))
              go_simp
              first | (with_reducible refine hK0 _ (wpQuiet_step (fun K1 hK1 => ?_))) | (with_reducible refine ⟨_, fun _ _ => rfl, hK0 _ (wpQuiet_step (fun K1 hK1 => ?_))⟩) | (rw [if_neg (by intro e; cases e)]; with_reducible refine hK0 _ (wpQuiet_step (fun K1 hK1 => ?_)))
              clear hK0 K0
              go_simp
              first | (with_reducible refine hK1 _ (wpQuiet_step (fun K0 hK0 => ?_))) | (with_reducible refine ⟨_, fun _ _ => rfl, hK1 _ (wpQuiet_step (fun K0 hK0 => ?_))⟩) | (rw [if_neg (by intro e; cases e)]; with_reducible refine hK1 _ (wpQuiet_step (fun K0 hK0 => ?_)))
              clear hK1 K1
              go_simp
              first | (with_reducible refine hK0 _ (wpQuiet_step (fun K1 hK1 => ?_))) | (with_reducible refine ⟨_, fun _ _ => rfl, hK0 _ (wpQuiet_step (fun K1 hK1 => ?_))⟩) | (rw [if_neg (by intro e; cases e)]; with_reducible refine hK0 _ (wpQuiet_step (fun K1 hK1 => ?_)))
              clear hK0 K0
              go_simp
              first | (with_reducible refine hK1 _ (wpQuiet_step (fun K0 hK0 => ?_))) | (with_reducible refine ⟨_, fun _ _ => rfl, hK1 _ (wpQuiet_step (fun K0 hK0 => ?_))⟩) | (rw [if_neg (by intro e; cases e)]; with_reducible refine hK1 _ (wpQuiet_step (fun K0 hK0 => ?_)))
              clear hK1 K1
              go_simp
              first | (with_reducible refine hK0 _ (wpQuiet_step (fun K1 hK1 => ?_))) | (with_reducible refine ⟨_, fun _ _ => rfl, hK0 _ (wpQuiet_step (fun K1 hK1 => ?_))⟩) | (rw [if_neg (by intro e; cases e)]; with_reducible refine hK0 _ (wpQuiet_step (fun K1 hK1 => ?_)))
              clear hK0 K0
              go_simp
              first | (with_reducible refine hK1 _ (wpQuiet_step (fun K0 hK0 => ?_))) | (with_reducible refine ⟨_, fun _ _ => rfl, hK1 _ (wpQuiet_step (fun K0 hK0 => ?_))⟩) | (rw [if_neg (by intro e; cases e)]; with_reducible refine hK1 _ (wpQuiet_step (fun K0 hK0 => ?_)))
              clear hK1 K1
              go_simp
              refine ⟨Bv x, fun W hW => ?_, hK0 _ (wpQuiet_step (fun K1 hK1 => ?_))⟩
              · ((obtain ⟨_, _, eb, _, u0, u1, u2⟩ := HX.out W hW; cases eb; simp [go_sem, u0, u1, u2]))
              clear hK0 K0
              go_simp
              refine ⟨.bool true, fun W hW => ?_, hK1 _ (wpQuiet_nil ?_)⟩
              · exact (MT.out W _ (TK.out W hW)).mono fun e w2 ⟨he, hb⟩ => ⟨he, HSk.step hW hb⟩
              clear hK1 K1
              intro w2 H2
              go_wp2
              go_ret2
              rw [R.out]
              exact ⟨_, rfl, H2.1, own_nil _ _⟩
            | false =>
              have E1 := hide e1
              rw [e1] at MT
              clear e1
              go_wp2_with fail
              refine wp_region_quiet (C := HSk w p (.slice (some ⟨b, o, none⟩) l.length c) l) (by kernel_rfl) (by kernel_rfl) (HB.step (Below.refl _ _).drew) (wpQuiet_step (fun K0 hK0 => ?_))
              go_simp
              first | (with_reducible refine hK0 _ (wpQuiet_step (fun K1 hK1 => ?_))) | (with_reducible refine ⟨_, fun _ _ => rfl, hK0 _ (wpQuiet_step (fun K1 hK1 => ?_))⟩) | (rw [if_neg (by intro e; cases e)]; with_reducible refine hK0 _ (wpQuiet_step (fun K1 hK1 => ?_)))
              clear hK0 K0
              go_simp
              first | (with_reducible refine hK1 _ (wpQuiet_step (fun K0 hK0 => ?_))) | (with_reducible refine ⟨_, fun _ _ => rfl, hK1 _ (wpQuiet_step (fun K0 hK0 => ?_))⟩) | (rw [if_neg (by intro e; cases e)]; with_reducible refine hK1 _ (wpQuiet_step (fun K0 hK0 => ?_)))
              clear hK1 K1
              go_simp
              first | (with_reducible refine hK0 _ (wpQuiet_step (fun K1 hK1 => ?_))) | (with_reducible refine ⟨_, fun _ _ => rfl, hK0 _ (wpQuiet_step (fun K1 hK1 => ?_))⟩) | (rw [if_neg (by intro e; cases e)]; with_reducible refine hK0 _ (wpQuiet_step (fun K1 hK1 => ?_)))
              clear hK0 K0
              go_simp
              first | (with_reducible refine hK1 _ (wpQuiet_step (fun K0 hK0 => ?_))) | (with_reducible refine ⟨_, fun _ _ => rfl, hK1 _ (wpQuiet_step (fun K0 hK0 => ?_))⟩) | (rw [if_neg (by intro e; cases e)]; with_reducible refine hK1 _ (wpQuiet_step (fun K0 hK0 => ?_)))
              clear hK1 K1
              go_simp
              first | (with_reducible refine hK0 _ (wpQuiet_step (fun K1 hK1 => ?_))) | (with_reducible refine ⟨_, fun _ _ => rfl, hK0 _ (wpQuiet_step (fun K1 hK1 => ?_))⟩) | (rw [if_neg (by intro e; cases e)]; with_reducible refine hK0 _ (wpQuiet_step (fun K1 hK1 => ?_)))
              clear hK0 K0
              go_simp
              first | (with_reducible refine hK1 _ (wpQuiet_step (fun K0 hK0 => ?_))) | (with_reducible refine ⟨_, fun _ _ => rfl, hK1 _ (wpQuiet_step (fun K0 hK0 => ?_))⟩) | (rw [if_neg (by intro e; cases e)]; with_reducible refine hK1 _ (wpQuiet_step (fun K0 hK0 => ?_)))
              clear hK1 K1
              go_simp
              refine ⟨Bv x, fun W hW => ?_, hK0 _ (wpQuiet_step (fun K1 hK1 => ?_))⟩
              · ((obtain ⟨_, _, eb, _, u0, u1, u2⟩ := HX.out W hW; cases eb; simp [go_sem, u0, u1, u2]))
              clear hK0 K0
              go_simp
              refine ⟨.bool false, fun W hW => ?_, hK1 _ (wpQuiet_nil ?_)⟩
              · exact (MT.out W _ (TK.out W hW)).mono fun e w2 ⟨he, hb⟩ => ⟨he, HSk.step hW hb⟩
              clear hK1 K1
              intro w2 H2
              go_wp2
              go_roundw
              case rel => exact ⟨k + 1, hlt, by go_num, next_nil (P := fun j => anyM (l.take j) (l.getD j (0, 0))) (show anyM (l.take k) (l.getD k (0, 0)) = false by rw [GX.out]; exact E1.out) HG.out, H2⟩
              case measure => simp [intOf]; omega
          · have R := hide (B3.out AL.out (mets_no (fun j hj => HG.out j (by omega))))
            have bA := below_alloc wr (.cells #[.int .u64 (hi p.1 : Nat), .int .u64 (lo p.1 : Nat), .int .i64 p.2] 26)
            have N1 := lst_one (box_new wr p 26)
            have H4 := HB.step bA
            obtain ⟨_, ⟨z, ⟨u0, u1, u2⟩, _⟩, _⟩ := id HB
            go_wp2_with fail
            clear z u0 u1 u2
            refine (RS.out _ _ _ N1 H4.2.2).mono ?_
            rintro e w4 ⟨v4, rfl, hb4, O4⟩
            have O5 := own_base O4 H4.1.size
            have HB5 := chain H4.1 hb4
            clear H4 hb4 O4 N1 HB bA
            go_wp2
            go_ret2
            rw [R.out]
            exact ⟨_, rfl, HB5, O5⟩
end Go.Proofs.Ytpieddddckbfdaa
