/-
  Contracts of the document's own Reserve and Give. Conditions: the words are words of 64 bits, an int is an int of 64 bits; at most 1000 prefixes.
-/
import Derived.Test.YtpieddddckbfdaaBuRs
import Derived.Test.YtpieddddckbfdaaBuRr
import Derived.Test.YtpieddddckbfdaaBuR
import Derived.Test.YtpieddddckbfdaaBuK
namespace Go.Proofs.Ytpieddddckbfdaa
open Go.RowKit Go.Joins

theorem fit_cons {x : Bk} {l : List Bk} (h : FitB x) (k : FitL l) : FitL (x :: l) := fun y hy => by
  rcases List.mem_cons.1 hy with rfl | e
  · exact h
  · exact k y e
theorem fit_nil : FitL [] := fun y hy => by simp at hy
theorem rreserve_bad {p b : Bk} {l : List Bk} (h : goodL p l = false ∨ covB p b = false) : rreserveL p l b = ([], 1) := by
  unfold rreserveL
  rw [if_neg]
  rw [Bool.and_eq_true]
  rintro ⟨h1, h2⟩
  rcases h with h | h
  · rw [h] at h1; cases h1
  · rw [h] at h2; cases h2
theorem rreserve_ok {p b : Bk} {l : List Bk} (h1 : goodL p l = true) (h2 : covB p b = true) : rreserveL p l b = if anyC l b then (restL 129 p l [b], 0) else ([], 110) := by
  unfold rreserveL
  rw [h1, h2]
  exact if_pos rfl
set_option maxRecDepth 100000 in
set_option maxHeartbeats 2000000 in
theorem rreserve_any {v : Value} {p b : Bk} {l : List Bk} (fp : FitB p) (fb : FitB b) (hf : FitL l) (hl : l.length ≤ 1000) (w : World) (hv : Lst v l w) :
    Calls Try.prog 16 #[Bv p, v, Bv b] w (GivesE (reserveL p l b) w) := by
  rw [← rreserve_eq]
  have GD := hide (fun W v (H : Lst v l W) => rgood_any fp hf (show l.length ≤ 1000000 by omega) W H)
  have CV := hide (fun W => rcovers_any (p := p.1) fp.1 fb.1 p.2 b.2 W)
  have AC := hide (fun W v (H : Lst v l W) => rcovered_any hf fb (show l.length ≤ 1000000 by omega) W H)
  have RS := hide (fun W va vb (H : Lst va l W) (K : Lst vb [b] W) => rest_any 128 p fp hf (fit_one fb) (show l.length ≤ 1500 by omega) (show [b].length ≤ 1500 by simp) (fun _ => by omega) W H K)
  have H0 := he_new w p b hv
  obtain ⟨q, c, rfl⟩ := lst_len hv
  clear hv
  cases hg : goodL p l with
  | false =>
    rw [hg] at GD
    rw [rreserve_bad (Or.inl hg)]
    clear hg AC RS CV
    go_enter Try.func16, Try.ntmps16
    obtain ⟨z, ⟨x1, x2, x3⟩, _⟩ := H0.1.all
    go_wp2_with fail
    clear z x1 x2 x3
    refine (GD.out _ _ H0.2).mono ?_
    rintro e w1 ⟨rfl, hb1⟩
    have H1 := H0.step hb1
    clear H0 hb1 GD
    go_wp2
    go_ret2
    exact ⟨_, rfl, H1.1.1, own_nil _ _⟩
  | true =>
    rw [hg] at GD
    cases hc : covB p b with
    | false =>
      rw [show coversS p.1 p.2 b.1 b.2 = false from hc] at CV
      rw [rreserve_bad (Or.inr hc)]
      clear hg AC RS hc
      go_enter Try.func16, Try.ntmps16
      obtain ⟨z, ⟨x1, x2, x3⟩, _⟩ := H0.1.all
      go_wp2_with fail
      clear z x1 x2 x3
      refine (GD.out _ _ H0.2).mono ?_
      rintro e w1 ⟨rfl, hb1⟩
      have H1 := H0.step hb1
      clear H0 hb1 GD
      obtain ⟨z, ⟨x1, x2, x3⟩, ⟨y1, y2, y3⟩⟩ := H1.1.all
      go_wp2_with fail
      clear z x1 x2 x3 y1 y2 y3
      refine (CV.out _).mono ?_
      rintro e w2 ⟨rfl, hb2⟩
      have H2 := H1.step hb2
      clear H1 hb2 CV
      go_wp2
      go_ret2
      exact ⟨_, rfl, H2.1.1, own_nil _ _⟩
    | true =>
      rw [show coversS p.1 p.2 b.1 b.2 = true from hc] at CV
      rw [rreserve_ok hg hc]
      cases hx : anyC l b with
      | false =>
        rw [hx] at AC
        rw [if_neg (by simp)]
        clear hg hc hx RS
        go_enter Try.func16, Try.ntmps16
        obtain ⟨z, ⟨x1, x2, x3⟩, _⟩ := H0.1.all
        go_wp2_with fail
        clear z x1 x2 x3
        refine (GD.out _ _ H0.2).mono ?_
        rintro e w1 ⟨rfl, hb1⟩
        have H1 := H0.step hb1
        clear H0 hb1 GD
        obtain ⟨z, ⟨x1, x2, x3⟩, ⟨y1, y2, y3⟩⟩ := H1.1.all
        go_wp2_with fail
        clear z x1 x2 x3 y1 y2 y3
        refine (CV.out _).mono ?_
        rintro e w2 ⟨rfl, hb2⟩
        have H2 := H1.step hb2
        clear H1 hb2 CV
        obtain ⟨z, _, ⟨y1, y2, y3⟩⟩ := H2.1.all
        go_wp2_with fail
        clear z y1 y2 y3
        refine (AC.out _ _ H2.2).mono ?_
        rintro e w3 ⟨rfl, hb3⟩
        have H3 := H2.step hb3
        clear H2 hb3 AC
        go_wp2
        go_ret2
        exact ⟨_, rfl, H3.1.1, own_nil _ _⟩
      | true =>
        rw [hx] at AC
        rw [if_pos rfl]
        clear hg hc hx
        change Calls _ _ _ _ (GivesE (restL (128 + 1) p l [b], 0) w)
        generalize restL (128 + 1) p l [b] = M at *
        go_enter Try.func16, Try.ntmps16
        obtain ⟨z, ⟨x1, x2, x3⟩, _⟩ := H0.1.all
        go_wp2_with fail
        clear z x1 x2 x3
        refine (GD.out _ _ H0.2).mono ?_
        rintro e w1 ⟨rfl, hb1⟩
        have H1 := H0.step hb1
        clear H0 hb1 GD
        obtain ⟨z, ⟨x1, x2, x3⟩, ⟨y1, y2, y3⟩⟩ := H1.1.all
        go_wp2_with fail
        clear z x1 x2 x3 y1 y2 y3
        refine (CV.out _).mono ?_
        rintro e w2 ⟨rfl, hb2⟩
        have H2 := H1.step hb2
        clear H1 hb2 CV
        obtain ⟨z, _, ⟨y1, y2, y3⟩⟩ := H2.1.all
        go_wp2_with fail
        clear z y1 y2 y3
        refine (AC.out _ _ H2.2).mono ?_
        rintro e w3 ⟨rfl, hb3⟩
        have H3 := H2.step hb3
        clear H2 hb3 AC
        obtain ⟨z, ⟨x1, x2, x3⟩, ⟨y1, y2, y3⟩⟩ := H3.1.all
        go_wp2_with fail
        clear z x1 x2 x3 y1 y2 y3
        have bA := below_alloc w3 (.cells #[.int .u64 (hi b.1 : Nat), .int .u64 (lo b.1 : Nat), .int .i64 b.2] 26)
        have N1 := lst_one (box_new w3 b 26)
        have H4 := H3.step bA
        clear H3 bA
        refine (RS.out _ _ _ H4.2 N1).mono ?_
        rintro e w4 ⟨v4, rfl, hb4, O4⟩
        have O5 := own_base O4 H4.1.1.size
        have HB := chain H4.1.1 hb4
        clear H4 hb4 O4 N1
        go_wp2
        go_ret2
        exact ⟨_, rfl, HB, O5⟩
theorem rgive_bad {p b : Bk} {l : List Bk} (h : goodL p l = false ∨ covB p b = false) : rgiveL p l b = ([], 1) := by
  unfold rgiveL
  rw [if_neg]
  rw [Bool.and_eq_true]
  rintro ⟨h1, h2⟩
  rcases h with h | h
  · rw [h] at h1; cases h1
  · rw [h] at h2; cases h2
theorem rgive_ok {p b : Bk} {l : List Bk} (h1 : goodL p l = true) (h2 : covB p b = true) : rgiveL p l b = if anyM l b then ([], 110) else (restL 129 p (b :: l) [], 0) := by
  unfold rgiveL
  rw [h1, h2]
  exact if_pos rfl
set_option maxRecDepth 100000 in
set_option maxHeartbeats 2000000 in
theorem rgive_any {v : Value} {p b : Bk} {l : List Bk} (fp : FitB p) (fb : FitB b) (hf : FitL l) (hl : l.length ≤ 1000) (w : World) (hv : Lst v l w) :
    Calls Try.prog 18 #[Bv p, v, Bv b] w (GivesE (giveL p l b) w) := by
  rw [← rgive_eq]
  have GD := hide (fun W v (H : Lst v l W) => rgood_any fp hf (show l.length ≤ 1000000 by omega) W H)
  have CV := hide (fun W => rcovers_any (p := p.1) fp.1 fb.1 p.2 b.2 W)
  have AC := hide (fun W v (H : Lst v l W) => rmet_any hf fb (show l.length ≤ 1000000 by omega) W H)
  have RS := hide (fun W va vb (H : Lst va (b :: l) W) (K : Lst vb [] W) => rest_any 128 p fp (fit_cons fb hf) fit_nil (show (b :: l).length ≤ 1500 by rw [List.length_cons]; omega) (Nat.zero_le _) (fun _ => by omega) W H K)
  have H0 := he_new w p b hv
  obtain ⟨q, c, rfl⟩ := lst_len hv
  clear hv
  cases hg : goodL p l with
  | false =>
    rw [hg] at GD
    rw [rgive_bad (Or.inl hg)]
    clear hg AC RS CV
    go_enter Try.func18, Try.ntmps18
    obtain ⟨z, ⟨x1, x2, x3⟩, _⟩ := H0.1.all
    go_wp2_with fail
    clear z x1 x2 x3
    refine (GD.out _ _ H0.2).mono ?_
    rintro e w1 ⟨rfl, hb1⟩
    have H1 := H0.step hb1
    clear H0 hb1 GD
    go_wp2
    go_ret2
    exact ⟨_, rfl, H1.1.1, own_nil _ _⟩
  | true =>
    rw [hg] at GD
    cases hc : covB p b with
    | false =>
      rw [show coversS p.1 p.2 b.1 b.2 = false from hc] at CV
      rw [rgive_bad (Or.inr hc)]
      clear hg AC RS hc
      go_enter Try.func18, Try.ntmps18
      obtain ⟨z, ⟨x1, x2, x3⟩, _⟩ := H0.1.all
      go_wp2_with fail
      clear z x1 x2 x3
      refine (GD.out _ _ H0.2).mono ?_
      rintro e w1 ⟨rfl, hb1⟩
      have H1 := H0.step hb1
      clear H0 hb1 GD
      obtain ⟨z, ⟨x1, x2, x3⟩, ⟨y1, y2, y3⟩⟩ := H1.1.all
      go_wp2_with fail
      clear z x1 x2 x3 y1 y2 y3
      refine (CV.out _).mono ?_
      rintro e w2 ⟨rfl, hb2⟩
      have H2 := H1.step hb2
      clear H1 hb2 CV
      go_wp2
      go_ret2
      exact ⟨_, rfl, H2.1.1, own_nil _ _⟩
    | true =>
      rw [show coversS p.1 p.2 b.1 b.2 = true from hc] at CV
      rw [rgive_ok hg hc]
      cases hx : anyM l b with
      | true =>
        rw [hx] at AC
        rw [if_pos rfl]
        clear hg hc hx RS
        go_enter Try.func18, Try.ntmps18
        obtain ⟨z, ⟨x1, x2, x3⟩, _⟩ := H0.1.all
        go_wp2_with fail
        clear z x1 x2 x3
        refine (GD.out _ _ H0.2).mono ?_
        rintro e w1 ⟨rfl, hb1⟩
        have H1 := H0.step hb1
        clear H0 hb1 GD
        obtain ⟨z, ⟨x1, x2, x3⟩, ⟨y1, y2, y3⟩⟩ := H1.1.all
        go_wp2_with fail
        clear z x1 x2 x3 y1 y2 y3
        refine (CV.out _).mono ?_
        rintro e w2 ⟨rfl, hb2⟩
        have H2 := H1.step hb2
        clear H1 hb2 CV
        obtain ⟨z, _, ⟨y1, y2, y3⟩⟩ := H2.1.all
        go_wp2_with fail
        clear z y1 y2 y3
        refine (AC.out _ _ H2.2).mono ?_
        rintro e w3 ⟨rfl, hb3⟩
        have H3 := H2.step hb3
        clear H2 hb3 AC
        go_wp2
        go_ret2
        exact ⟨_, rfl, H3.1.1, own_nil _ _⟩
      | false =>
        rw [hx] at AC
        rw [if_neg (by simp)]
        clear hg hc hx
        change Calls _ _ _ _ (GivesE (restL (128 + 1) p (b :: l) [], 0) w)
        generalize restL (128 + 1) p (b :: l) [] = M at *
        go_enter Try.func18, Try.ntmps18
        obtain ⟨z, ⟨x1, x2, x3⟩, _⟩ := H0.1.all
        go_wp2_with fail
        clear z x1 x2 x3
        refine (GD.out _ _ H0.2).mono ?_
        rintro e w1 ⟨rfl, hb1⟩
        have H1 := H0.step hb1
        clear H0 hb1 GD
        obtain ⟨z, ⟨x1, x2, x3⟩, ⟨y1, y2, y3⟩⟩ := H1.1.all
        go_wp2_with fail
        clear z x1 x2 x3 y1 y2 y3
        refine (CV.out _).mono ?_
        rintro e w2 ⟨rfl, hb2⟩
        have H2 := H1.step hb2
        clear H1 hb2 CV
        obtain ⟨z, _, ⟨y1, y2, y3⟩⟩ := H2.1.all
        go_wp2_with fail
        clear z y1 y2 y3
        refine (AC.out _ _ H2.2).mono ?_
        rintro e w3 ⟨rfl, hb3⟩
        have H3 := H2.step hb3
        clear H2 hb3 AC
        obtain ⟨z, ⟨x1, x2, x3⟩, ⟨y1, y2, y3⟩⟩ := H3.1.all
        have bA := below_alloc w3 (.cells #[.int .u64 (hi b.1 : Nat), .int .u64 (lo b.1 : Nat), .int .i64 b.2] 26)
        have N1 := own_lit w3 b
        have H4 := H3.step bA
        have S3 : w3.heap.size ≤ (w3.alloc (.cells #[.int .u64 (hi b.1 : Nat), .int .u64 (lo b.1 : Nat), .int .i64 b.2] 26)).heap.size := by rw [World.size_alloc]; omega
        go_wp2_with (at_builtin; refine wpList_append_lst rfl (.tmp 24) (.tmp 25) rfl w3.heap.size _ [b] rfl N1 _ l rfl H4.2 (by simp; omega) S3 ?_; intro v5 w5 O5 HB5 hg5; clear hg5; have H5 := H3.step (show Below w3.heap.size w3 w5 from bA.trans HB5); obtain ⟨p5, c5, rfl⟩ := lst_len (own_lst O5); obtain ⟨z5, ⟨k1, k2, k3⟩, _⟩ := H5.1.all; clear HB5)
        clear z x1 x2 x3 y1 y2 y3 z5 k1 k2 k3 H3 H4 bA N1 S3
        refine (RS.out _ _ _ (own_lst O5) (lst_nil _)).mono ?_
        rintro e w6 ⟨v6, rfl, hb6, O6⟩
        have O7 := own_base O6 H5.1.1.size
        have HB := chain H5.1.1 hb6
        clear H5 hb6 O6 O5
        go_wp2
        go_ret2
        exact ⟨_, rfl, HB, O7⟩
end Go.Proofs.Ytpieddddckbfdaa
