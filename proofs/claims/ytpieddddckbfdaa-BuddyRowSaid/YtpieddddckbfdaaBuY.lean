/-
  Contract of Give. Conditions: the words are words of 64 bits, an int is an int of 64 bits; at most 100000 prefixes.
-/
import Derived.Test.YtpieddddckbfdaaBuX
namespace Go.Proofs.Ytpieddddckbfdaa
open Go.RowKit Go.Joins

theorem give_ok {p b : Bk} {L : List Bk} (h1 : goodL p L = true) (h2 : covB p b = true) : giveL p L b = if anyM L b then ([], 110) else (growL 130 L (placeN L b.1) b (placeN L b.1), 0) := by
  unfold giveL
  rw [h1, h2]
  rfl
set_option maxRecDepth 100000 in
set_option maxHeartbeats 4000000 in
theorem give_any {v : Value} {p b : Bk} {l : List Bk} (fp : FitB p) (fb : FitB b) (hf : FitL l) (hl : l.length ≤ 100000) (w : World) (hv : Lst v l w) :
    Calls Try.prog 17 #[Bv p, v, Bv b] w (GivesE (giveL p l b) w) := by
  have GD := hide (fun W v (H : Lst v l W) => good_any fp hf (show l.length ≤ 1000000 by omega) W H)
  have CV := hide (fun W => covers_any (p := p.1) fb.1 p.2 b.2 W)
  have CF := hide (fun W (H : HE w p b v l W) => contains_any 39 #[.pointer (some ⟨w.heap.size + 1, 0, none⟩)] (fun x => metB x b) (show l.length ≤ 1000000 by omega) W H.2 enters_give
    (fun W2 HB x hx => give1_any fb (hf x hx) W2 (H.1.2.2.step HB)))
  have CR := hide (show l.any (fun x => metB x b) = anyM l b from rfl)
  rw [CR.out] at CF
  clear CR
  have H0 := he_new w p b hv
  obtain ⟨q, c, rfl⟩ := lst_len hv
  clear hv
  cases hg : goodL p l with
  | false =>
    rw [hg] at GD
    rw [give_bad (Or.inl hg)]
    clear hg CF CV
    go_enter Try.func17, Try.ntmps17
    obtain ⟨z, ⟨x1, x2, x3⟩, _⟩ := H0.1.all
    go_wp2_with fail
    clear z x1 x2 x3
    refine (GD.out _ _ H0.2).mono ?_
    rintro e w1 ⟨rfl, hb1⟩
    have H1 := H0.step hb1
    clear H0 hb1
    go_wp2
    go_ret2
    exact ⟨_, rfl, H1.1.1, own_nil _ _⟩
  | true =>
    rw [hg] at GD
    cases hc : covB p b with
    | false =>
      rw [show coversS p.1 p.2 b.1 b.2 = false from hc] at CV
      rw [give_bad (Or.inr hc)]
      clear hg CF hc
      go_enter Try.func17, Try.ntmps17
      obtain ⟨z, ⟨x1, x2, x3⟩, _⟩ := H0.1.all
      go_wp2_with fail
      clear z x1 x2 x3
      refine (GD.out _ _ H0.2).mono ?_
      rintro e w1 ⟨rfl, hb1⟩
      have H1 := H0.step hb1
      clear H0 hb1
      obtain ⟨z, ⟨x1, x2, x3⟩, ⟨y1, y2, y3⟩⟩ := H1.1.all
      go_wp2_with fail
      clear z x1 x2 x3 y1 y2 y3
      refine (CV.out _).mono ?_
      rintro e w2 ⟨rfl, hb2⟩
      have H2 := H1.step hb2
      clear H1 hb2
      go_wp2
      go_ret2
      exact ⟨_, rfl, H2.1.1, own_nil _ _⟩
    | true =>
      rw [show coversS p.1 p.2 b.1 b.2 = true from hc] at CV
      rw [give_ok hg hc]
      cases hm : anyM l b with
      | true =>
        rw [hm] at CF
        rw [if_pos rfl]
        clear hg hm hc
        go_enter Try.func17, Try.ntmps17
        obtain ⟨z, ⟨x1, x2, x3⟩, _⟩ := H0.1.all
        go_wp2_with fail
        clear z x1 x2 x3
        refine (GD.out _ _ H0.2).mono ?_
        rintro e w1 ⟨rfl, hb1⟩
        have H1 := H0.step hb1
        clear H0 hb1
        obtain ⟨z, ⟨x1, x2, x3⟩, ⟨y1, y2, y3⟩⟩ := H1.1.all
        go_wp2_with fail
        clear z x1 x2 x3 y1 y2 y3
        refine (CV.out _).mono ?_
        rintro e w2 ⟨rfl, hb2⟩
        have H2 := H1.step hb2
        clear H1 hb2
        go_wp2_with fail
        refine (CF.out _ H2).mono ?_
        rintro e w3 ⟨rfl, hb3⟩
        have H3 := H2.step hb3
        clear H2 hb3
        go_wp2
        go_ret2
        exact ⟨_, rfl, H3.1.1, own_nil _ _⟩
      | false =>
        rw [hm] at CF
        rw [if_neg (by decide)]
        have bz : b.2.toNat < 130 := by have := cov_bits hc; omega
        have PL := hide (fun W v (H : Lst v l W) => place_any (ord_rise (good_iff.1 hg).2.1) (show l.length ≤ 1000000 by omega) b.1 W H)
        have pl := place_le l b.1
        have PE := hide (show l = [] → placeN l b.1 = 0 from fun e => by rw [e]; rfl)
        clear hg hm hc
        generalize placeN l b.1 = i at *
        have GR := hide (fun W v0 v2 (h0 : Lst v0 (l.take i) W) (h2 : Lst v2 (l.drop i) W) => grow_loop hf fb hl W h0 h2 pl pl bz)
        generalize growL 130 l i b i = M at *
        by_cases hne : l = []
        · obtain rfl := PE.out hne
          subst hne
          rw [List.take_nil, List.drop_nil] at GR
          cases q with
          | none =>
            obtain rfl := (lst_cap H0.2).2.2.2 rfl
            clear PE
            go_enter Try.func17, Try.ntmps17
            obtain ⟨z, ⟨x1, x2, x3⟩, _⟩ := H0.1.all
            go_wp2_with fail
            clear z x1 x2 x3
            refine (GD.out _ _ H0.2).mono ?_
            rintro e w1 ⟨rfl, hb1⟩
            have H1 := H0.step hb1
            clear H0 hb1
            obtain ⟨z, ⟨x1, x2, x3⟩, ⟨y1, y2, y3⟩⟩ := H1.1.all
            go_wp2_with fail
            clear z x1 x2 x3 y1 y2 y3
            refine (CV.out _).mono ?_
            rintro e w2 ⟨rfl, hb2⟩
            have H2 := H1.step hb2
            clear H1 hb2
            go_wp2_with fail
            refine (CF.out _ H2).mono ?_
            rintro e w3 ⟨rfl, hb3⟩
            have H3 := H2.step hb3
            clear H2 hb3
            obtain ⟨z, _, ⟨y1, y2, y3⟩⟩ := H3.1.all
            go_wp2_with fail
            clear z y1 y2 y3
            refine (PL.out _ _ H3.2).mono ?_
            rintro e w4 ⟨rfl, hb4⟩
            have H4 := H3.step hb4
            clear H3 hb4 PL CF GD CV
            go_wp2_with fail
            refine wp_region_relT 7 3 (HE w p b (.slice none 0 0) []) [some 26, some 27, some 28, some 29, some 30, some 31, some 32] [fun yy _ => yy = .slice none 0 0, fun yy _ => yy = .int .i64 0, fun yy _ => yy = .slice none 0 0, fun yy _ => yy = Bv b, fun yy _ => yy = .slice none 0 0, fun yy _ => yy = .int .i64 0, fun yy _ => yy = .slice none 0 0] 34 (by kernel_rfl) rfl (by omega) (by kernel_rfl) (by kernel_rfl) rfl rfl (H4.step (Below.refl _ _).drew) ?_ ?_
            · refine ⟨⟨fun _ _ _ h _ => h, fun a' W K hC hd hf hK => ?_⟩, ⟨fun _ _ _ h _ => h, fun a' W K hC hd hf hK => ?_⟩, ⟨fun _ _ _ h _ => h, fun a' W K hC hd hf hK => ?_⟩, ⟨fun _ _ _ h _ => h, fun a' W K hC hd hf hK => ?_⟩, ⟨fun _ _ _ h _ => h, fun a' W K hC hd hf hK => ?_⟩, ⟨fun _ _ _ h _ => h, fun a' W K hC hd hf hK => ?_⟩, ⟨fun _ _ _ h _ => h, fun a' W K hC hd hf hK => ?_⟩, trivial⟩
              · refine op_plain rfl ?_
                have f1 : a'.tmps[1]?.getD undef = .slice none 0 0 := (hf.out 1 (by kernel_rfl)).trans (by simp)
                go_simp
                exact hK.out _ _ hC (Below.refl _ _) rfl
              · refine op_plain rfl ?_
                have f8 : a'.tmps[8]?.getD undef = .int .i64 0 := (hf.out 8 (by kernel_rfl)).trans (by simp)
                go_simp
                exact hK.out _ _ hC (Below.refl _ _) rfl
              · refine op_plain rfl ?_
                have d26 : a'.tmps[26]?.getD undef = .slice none 0 0 := hd.out 0 26 (by kernel_rfl) rfl
                have d27 : a'.tmps[27]?.getD undef = .int .i64 0 := hd.out 1 27 (by kernel_rfl) rfl
                go_simp
                exact hK.out _ _ hC (Below.refl _ _) rfl
              · refine op_plain rfl ?_
                have f5 : a'.tmps[5]?.getD undef = .pointer (some ⟨w.heap.size + 1, 0, none⟩) := (hf.out 5 (by kernel_rfl)).trans (by simp)
                obtain ⟨⟨_, _, ⟨z2, ⟨a0, a1, a2⟩, _⟩⟩, _⟩ := id hC
                go_simp
                exact hK.out _ _ hC (Below.refl _ _) rfl
              · refine op_plain rfl ?_
                have f1 : a'.tmps[1]?.getD undef = .slice none 0 0 := (hf.out 1 (by kernel_rfl)).trans (by simp)
                go_simp
                exact hK.out _ _ hC (Below.refl _ _) rfl
              · refine op_plain rfl ?_
                have f8 : a'.tmps[8]?.getD undef = .int .i64 0 := (hf.out 8 (by kernel_rfl)).trans (by simp)
                go_simp
                exact hK.out _ _ hC (Below.refl _ _) rfl
              · refine op_plain rfl ?_
                have d30 : a'.tmps[30]?.getD undef = .slice none 0 0 := hd.out 4 30 (by kernel_rfl) rfl
                have d31 : a'.tmps[31]?.getD undef = .int .i64 0 := hd.out 5 31 (by kernel_rfl) rfl
                go_simp
                exact hK.out _ _ hC (Below.refl _ _) rfl
            · intro vs W5 hC hR
              have q0 : vs 0 = .slice none 0 0 := hR.out 0 (by decide)
              have q1 : vs 1 = .int .i64 0 := hR.out 1 (by decide)
              have q2 : vs 2 = .slice none 0 0 := hR.out 2 (by decide)
              have q3 : vs 3 = Bv b := hR.out 3 (by decide)
              have q4 : vs 4 = .slice none 0 0 := hR.out 4 (by decide)
              have q5 : vs 5 = .int .i64 0 := hR.out 5 (by decide)
              have q6 : vs 6 = .slice none 0 0 := hR.out 6 (by decide)
              simp only [List.drop_succ_cons, List.drop_zero, fillF, Act.put, List.setIfInBounds_toArray, List.set_cons_zero, List.set_cons_succ, Nat.reduceAdd, q0, q1, q2, q3, q4, q5, q6]
              clear hR q0 q1 q2 q3 q4 q5 q6
              have HC2 := hC
              clear H4 hC
              go_wp2_with fail
              refine (GR.out _ _ _ (lst_nil _) (lst_nil _)).mono ?_
              rintro e w6 ⟨v6, rfl, hb6, O6⟩
              have HB := chain HC2.1.1 hb6
              have O7 := own_base O6 HC2.1.1.size
              clear HC2 hb6 O6 GR
              go_wp2
              go_ret2
              exact ⟨_, rfl, HB, O7⟩
          | some ad =>
            obtain ⟨bb, oo, ff⟩ := ad
            obtain ⟨_, _, lc2, _⟩ := lst_cap H0.2
            clear PE
            go_enter Try.func17, Try.ntmps17
            obtain ⟨z, ⟨x1, x2, x3⟩, _⟩ := H0.1.all
            go_wp2_with fail
            clear z x1 x2 x3
            refine (GD.out _ _ H0.2).mono ?_
            rintro e w1 ⟨rfl, hb1⟩
            have H1 := H0.step hb1
            clear H0 hb1
            obtain ⟨z, ⟨x1, x2, x3⟩, ⟨y1, y2, y3⟩⟩ := H1.1.all
            go_wp2_with fail
            clear z x1 x2 x3 y1 y2 y3
            refine (CV.out _).mono ?_
            rintro e w2 ⟨rfl, hb2⟩
            have H2 := H1.step hb2
            clear H1 hb2
            go_wp2_with fail
            refine (CF.out _ H2).mono ?_
            rintro e w3 ⟨rfl, hb3⟩
            have H3 := H2.step hb3
            clear H2 hb3
            obtain ⟨z, _, ⟨y1, y2, y3⟩⟩ := H3.1.all
            go_wp2_with fail
            clear z y1 y2 y3
            refine (PL.out _ _ H3.2).mono ?_
            rintro e w4 ⟨rfl, hb4⟩
            have H4 := H3.step hb4
            clear H3 hb4 PL CF GD CV
            go_wp2_with fail
            refine wp_region_relT 7 3 (HE w p b (.slice (some ⟨bb, oo, ff⟩) 0 c) []) [some 26, some 27, some 28, some 29, some 30, some 31, some 32] [fun yy _ => yy = .slice (some ⟨bb, oo, ff⟩) 0 c, fun yy _ => yy = .int .i64 0, fun yy _ => yy = .slice (some ⟨bb, oo, ff⟩) 0 c, fun yy _ => yy = Bv b, fun yy _ => yy = .slice (some ⟨bb, oo, ff⟩) 0 c, fun yy _ => yy = .int .i64 0, fun yy _ => yy = .slice (some ⟨bb, oo, ff⟩) 0 c] 34 (by kernel_rfl) rfl (by omega) (by kernel_rfl) (by kernel_rfl) rfl rfl (H4.step (Below.refl _ _).drew) ?_ ?_
            · refine ⟨⟨fun _ _ _ h _ => h, fun a' W K hC hd hf hK => ?_⟩, ⟨fun _ _ _ h _ => h, fun a' W K hC hd hf hK => ?_⟩, ⟨fun _ _ _ h _ => h, fun a' W K hC hd hf hK => ?_⟩, ⟨fun _ _ _ h _ => h, fun a' W K hC hd hf hK => ?_⟩, ⟨fun _ _ _ h _ => h, fun a' W K hC hd hf hK => ?_⟩, ⟨fun _ _ _ h _ => h, fun a' W K hC hd hf hK => ?_⟩, ⟨fun _ _ _ h _ => h, fun a' W K hC hd hf hK => ?_⟩, trivial⟩
              · refine op_plain rfl ?_
                have f1 : a'.tmps[1]?.getD undef = .slice (some ⟨bb, oo, ff⟩) 0 c := (hf.out 1 (by kernel_rfl)).trans (by simp)
                go_simp
                exact hK.out _ _ hC (Below.refl _ _) rfl
              · refine op_plain rfl ?_
                have f8 : a'.tmps[8]?.getD undef = .int .i64 0 := (hf.out 8 (by kernel_rfl)).trans (by simp)
                go_simp
                exact hK.out _ _ hC (Below.refl _ _) rfl
              · refine op_plain rfl ?_
                have d26 : a'.tmps[26]?.getD undef = .slice (some ⟨bb, oo, ff⟩) 0 c := hd.out 0 26 (by kernel_rfl) rfl
                have d27 : a'.tmps[27]?.getD undef = .int .i64 0 := hd.out 1 27 (by kernel_rfl) rfl
                go_simp
                exact hK.out _ _ hC (Below.refl _ _) rfl
              · refine op_plain rfl ?_
                have f5 : a'.tmps[5]?.getD undef = .pointer (some ⟨w.heap.size + 1, 0, none⟩) := (hf.out 5 (by kernel_rfl)).trans (by simp)
                obtain ⟨⟨_, _, ⟨z2, ⟨a0, a1, a2⟩, _⟩⟩, _⟩ := id hC
                go_simp
                exact hK.out _ _ hC (Below.refl _ _) rfl
              · refine op_plain rfl ?_
                have f1 : a'.tmps[1]?.getD undef = .slice (some ⟨bb, oo, ff⟩) 0 c := (hf.out 1 (by kernel_rfl)).trans (by simp)
                go_simp
                exact hK.out _ _ hC (Below.refl _ _) rfl
              · refine op_plain rfl ?_
                have f8 : a'.tmps[8]?.getD undef = .int .i64 0 := (hf.out 8 (by kernel_rfl)).trans (by simp)
                go_simp
                exact hK.out _ _ hC (Below.refl _ _) rfl
              · refine op_plain rfl ?_
                have d30 : a'.tmps[30]?.getD undef = .slice (some ⟨bb, oo, ff⟩) 0 c := hd.out 4 30 (by kernel_rfl) rfl
                have d31 : a'.tmps[31]?.getD undef = .int .i64 0 := hd.out 5 31 (by kernel_rfl) rfl
                go_simp
                trace_state
                exact hK.out _ _ hC (Below.refl _ _) rfl
            · intro vs W5 hC hR
              have q0 : vs 0 = .slice (some ⟨bb, oo, ff⟩) 0 c := hR.out 0 (by decide)
              have q1 : vs 1 = .int .i64 0 := hR.out 1 (by decide)
              have q2 : vs 2 = .slice (some ⟨bb, oo, ff⟩) 0 c := hR.out 2 (by decide)
              have q3 : vs 3 = Bv b := hR.out 3 (by decide)
              have q4 : vs 4 = .slice (some ⟨bb, oo, ff⟩) 0 c := hR.out 4 (by decide)
              have q5 : vs 5 = .int .i64 0 := hR.out 5 (by decide)
              have q6 : vs 6 = .slice (some ⟨bb, oo, ff⟩) 0 c := hR.out 6 (by decide)
              simp only [List.drop_succ_cons, List.drop_zero, fillF, Act.put, List.setIfInBounds_toArray, List.set_cons_zero, List.set_cons_succ, Nat.reduceAdd, q0, q1, q2, q3, q4, q5, q6]
              clear hR q0 q1 q2 q3 q4 q5 q6
              have HC2 := hC
              clear H4 hC
              go_wp2_with fail
              refine (GR.out _ _ _ (lst_empty (fun h => by cases h) lc2) (lst_empty (fun h => by cases h) lc2)).mono ?_
              rintro e w6 ⟨v6, rfl, hb6, O6⟩
              have HB := chain HC2.1.1 hb6
              have O7 := own_base O6 HC2.1.1.size
              clear HC2 hb6 O6 GR
              go_wp2
              go_ret2
              exact ⟨_, rfl, HB, O7⟩
        · obtain ⟨x0, hx0⟩ := get_some (show 0 < l.length from List.length_pos_iff.2 hne)
          obtain ⟨bb, o, rfl, _⟩ := lst_at H0.2 hx0
          obtain ⟨-, lc1, lc2, -⟩ := lst_cap H0.2
          clear PE hne hx0
          obtain ⟨TP, hTV⟩ : ∃ TP, (if c = i then some (⟨bb, o, none⟩ : Go.Addr) else some ⟨bb, o + i * 3, none⟩) = TP := ⟨_, rfl⟩
          have HTV := hide hTV
          have TKL := hide (fun W (H : Lst (.slice (some ⟨bb, o, none⟩) l.length c) l W) => lst_take H pl)
          have TVL := hide (fun W (H : Lst (.slice (some ⟨bb, o, none⟩) l.length c) l W) => (show Lst (.slice TP (l.length - i) (c - i)) (l.drop i) W from hTV ▸ lst_dropV H pl))
          clear hTV
          have ic : i ≤ c := by omega
          go_enter Try.func17, Try.ntmps17
          obtain ⟨z, ⟨x1, x2, x3⟩, _⟩ := H0.1.all
          go_wp2_with fail
          clear z x1 x2 x3
          refine (GD.out _ _ H0.2).mono ?_
          rintro e w1 ⟨rfl, hb1⟩
          have H1 := H0.step hb1
          clear H0 hb1
          obtain ⟨z, ⟨x1, x2, x3⟩, ⟨y1, y2, y3⟩⟩ := H1.1.all
          go_wp2_with fail
          clear z x1 x2 x3 y1 y2 y3
          refine (CV.out _).mono ?_
          rintro e w2 ⟨rfl, hb2⟩
          have H2 := H1.step hb2
          clear H1 hb2
          go_wp2_with fail
          refine (CF.out _ H2).mono ?_
          rintro e w3 ⟨rfl, hb3⟩
          have H3 := H2.step hb3
          clear H2 hb3
          obtain ⟨z, _, ⟨y1, y2, y3⟩⟩ := H3.1.all
          go_wp2_with fail
          clear z y1 y2 y3
          refine (PL.out _ _ H3.2).mono ?_
          rintro e w4 ⟨rfl, hb4⟩
          have H4 := H3.step hb4
          clear H3 hb4 PL CF GD CV
          go_wp2_with fail
          refine wp_region_relT 7 3 (HE w p b (.slice (some ⟨bb, o, none⟩) l.length c) l) [some 26, some 27, some 28, some 29, some 30, some 31, some 32] [fun yy _ => yy = .slice (some ⟨bb, o, none⟩) l.length c, fun yy _ => yy = .int .i64 (i : Nat), fun yy _ => yy = .slice (some ⟨bb, o, none⟩) i c, fun yy _ => yy = Bv b, fun yy _ => yy = .slice (some ⟨bb, o, none⟩) l.length c, fun yy _ => yy = .int .i64 (i : Nat), fun yy _ => yy = .slice TP (l.length - i) (c - i)] 34 (by kernel_rfl) rfl (by omega) (by kernel_rfl) (by kernel_rfl) rfl rfl (H4.step (Below.refl _ _).drew) ?_ ?_
          · refine ⟨⟨fun _ _ _ h _ => h, fun a' W K hC hd hf hK => ?_⟩, ⟨fun _ _ _ h _ => h, fun a' W K hC hd hf hK => ?_⟩, ⟨fun _ _ _ h _ => h, fun a' W K hC hd hf hK => ?_⟩, ⟨fun _ _ _ h _ => h, fun a' W K hC hd hf hK => ?_⟩, ⟨fun _ _ _ h _ => h, fun a' W K hC hd hf hK => ?_⟩, ⟨fun _ _ _ h _ => h, fun a' W K hC hd hf hK => ?_⟩, ⟨fun _ _ _ h _ => h, fun a' W K hC hd hf hK => ?_⟩, trivial⟩
            · refine op_plain rfl ?_
              have f1 : a'.tmps[1]?.getD undef = .slice (some ⟨bb, o, none⟩) l.length c := (hf.out 1 (by kernel_rfl)).trans (by simp)
              go_simp
              exact hK.out _ _ hC (Below.refl _ _) rfl
            · refine op_plain rfl ?_
              have f8 : a'.tmps[8]?.getD undef = .int .i64 (i : Nat) := (hf.out 8 (by kernel_rfl)).trans (by simp)
              go_simp
              exact hK.out _ _ hC (Below.refl _ _) rfl
            · refine op_plain rfl ?_
              have d26 : a'.tmps[26]?.getD undef = .slice (some ⟨bb, o, none⟩) l.length c := hd.out 0 26 (by kernel_rfl) rfl
              have d27 : a'.tmps[27]?.getD undef = .int .i64 (i : Nat) := hd.out 1 27 (by kernel_rfl) rfl
              go_simp
              exact hK.out _ _ hC (Below.refl _ _) rfl
            · refine op_plain rfl ?_
              have f5 : a'.tmps[5]?.getD undef = .pointer (some ⟨w.heap.size + 1, 0, none⟩) := (hf.out 5 (by kernel_rfl)).trans (by simp)
              obtain ⟨⟨_, _, ⟨z2, ⟨a0, a1, a2⟩, _⟩⟩, _⟩ := id hC
              go_simp
              exact hK.out _ _ hC (Below.refl _ _) rfl
            · refine op_plain rfl ?_
              have f1 : a'.tmps[1]?.getD undef = .slice (some ⟨bb, o, none⟩) l.length c := (hf.out 1 (by kernel_rfl)).trans (by simp)
              go_simp
              exact hK.out _ _ hC (Below.refl _ _) rfl
            · refine op_plain rfl ?_
              have f8 : a'.tmps[8]?.getD undef = .int .i64 (i : Nat) := (hf.out 8 (by kernel_rfl)).trans (by simp)
              go_simp
              exact hK.out _ _ hC (Below.refl _ _) rfl
            · refine op_plain rfl ?_
              have d30 : a'.tmps[30]?.getD undef = .slice (some ⟨bb, o, none⟩) l.length c := hd.out 4 30 (by kernel_rfl) rfl
              have d31 : a'.tmps[31]?.getD undef = .int .i64 (i : Nat) := hd.out 5 31 (by kernel_rfl) rfl
              go_simp
              rw [HTV.out]
              exact hK.out _ _ hC (Below.refl _ _) rfl
          · intro vs W5 hC hR
            have q0 : vs 0 = .slice (some ⟨bb, o, none⟩) l.length c := hR.out 0 (by decide)
            have q1 : vs 1 = .int .i64 (i : Nat) := hR.out 1 (by decide)
            have q2 : vs 2 = .slice (some ⟨bb, o, none⟩) i c := hR.out 2 (by decide)
            have q3 : vs 3 = Bv b := hR.out 3 (by decide)
            have q4 : vs 4 = .slice (some ⟨bb, o, none⟩) l.length c := hR.out 4 (by decide)
            have q5 : vs 5 = .int .i64 (i : Nat) := hR.out 5 (by decide)
            have q6 : vs 6 = .slice TP (l.length - i) (c - i) := hR.out 6 (by decide)
            simp only [List.drop_succ_cons, List.drop_zero, fillF, Act.put, List.setIfInBounds_toArray, List.set_cons_zero, List.set_cons_succ, Nat.reduceAdd, q0, q1, q2, q3, q4, q5, q6]
            clear hR q0 q1 q2 q3 q4 q5 q6
            have HC2 := hC
            clear H4 hC
            go_wp2_with fail
            refine (GR.out _ _ _ (TKL.out _ HC2.2) (TVL.out _ HC2.2)).mono ?_
            rintro e w6 ⟨v6, rfl, hb6, O6⟩
            have HB := chain HC2.1.1 hb6
            have O7 := own_base O6 HC2.1.1.size
            clear HC2 hb6 O6 GR
            go_wp2
            go_ret2
            exact ⟨_, rfl, HB, O7⟩
end Go.Proofs.Ytpieddddckbfdaa
