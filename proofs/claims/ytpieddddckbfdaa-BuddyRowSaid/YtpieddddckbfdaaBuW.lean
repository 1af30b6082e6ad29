/-
  Contract of without. Conditions: the words are words of 64 bits, an int is an int of 64 bits; at most 100000 prefixes.
-/
import Derived.Test.YtpieddddckbfdaaBuV
namespace Go.Proofs.Ytpieddddckbfdaa
open Go.RowKit Go.Joins

set_option maxRecDepth 100000 in
set_option maxHeartbeats 2000000 in
theorem without_any {v : Value} {L : List Bk} {i : Nat} {x b : Bk} (hx : L[i]? = some x) (fx : Fits x.1) (hb : covB x b = true) (hl : L.length ≤ 100000) (w : World) (hv : Lst v L w) :
    Calls Try.prog 34 #[v, .int .i64 (i : Nat), Bv b] w (Makes (withoutL L i x b) w) := by
  have H0 := hv_new w b hv
  have hi := lt_of_some hx
  have sx := (cov_iff.1 hb).1
  obtain ⟨⟨g0, g1⟩, _⟩ := snd_iff.1 sx
  have CA := hide (fun W v (H : Lst v [b] W) => carve_any 129 x [b] fx sx (by omega) (can_one hb).1 (by simp) W H)
  have CL := (carve_spec 129 x [b] sx (by omega) (can_one hb).1).2.2.2
  have CL2 : (carveL 129 x [b]).length ≤ 129 := by
    have := Nat.mul_le_mul_right 1 (show 128 - x.2.toNat ≤ 128 by omega)
    simp only [List.length_singleton] at CL
    omega
  clear CL g0 g1
  unfold withoutL
  generalize carveL 129 x [b] = M at *
  obtain ⟨q, c, rfl⟩ := lst_len hv
  obtain ⟨_, lc1, lc2, _⟩ := lst_cap hv
  obtain ⟨bb, o, rfl, _⟩ := lst_at hv hx
  have HX := hide (fun W (H : HV w b (.slice (some ⟨bb, o, none⟩) L.length c) L W) => lst_at H.2.2 hx)
  have CC := hide (fun W g v0 v1 v2 (H : Parts g [v0, v1, v2] [L.take i, M, L.drop (i + 1)] W) => concat3 (by rw [List.length_take, List.length_drop]; omega) W H)
  obtain ⟨TP, hTV⟩ : ∃ TP, (if c = i + 1 then some (⟨bb, o, none⟩ : Go.Addr) else some ⟨bb, o + (i + 1) * 3, none⟩) = TP := ⟨_, rfl⟩
  have HTV := hide hTV
  have TKL := hide (fun W (H : Lst (.slice (some ⟨bb, o, none⟩) L.length c) L W) => lst_take H (show i ≤ L.length by omega))
  have TVL := hide (fun W (H : Lst (.slice (some ⟨bb, o, none⟩) L.length c) L W) => (show Lst (.slice TP (L.length - (i + 1)) (c - (i + 1))) (L.drop (i + 1)) W from hTV ▸ lst_dropV H (show i + 1 ≤ L.length by omega)))
  clear hTV hv hx hb sx
  have ic : i ≤ c := by omega
  have ic1 : i + 1 ≤ c := by omega
  have iw : (i : Int) + 1 ≤ 9223372036854775807 := by omega
  have WI : IntKind.i64.wrap ((i : Int) + 1) = (i : Int) + 1 := IntWalk.i64_in _ ⟨by omega, by omega⟩
  have SB : 0 ≤ (i : Int) + 1 ∧ (i : Int) + 1 ≤ (L.length : Int) := ⟨by omega, by omega⟩
  generalize hn : L.length = n at *
  clear hn
  go_enter Try.func34, Try.ntmps34
  go_wp2_with fail
  refine wp_region_rel (HV w b (.slice (some ⟨bb, o, none⟩) n c) L) [some 7, some 8, some 9, some 10, some 11, some 12, some 13, some 14, some 15, some 16, some 17, some 18, some 19, some 20, some 21, some 22, some 6] [fun yy _ => yy = .slice (some ⟨bb, o, none⟩) n c, fun yy _ => yy = .int .i64 (i : Nat), fun yy _ => yy = .slice (some ⟨bb, o, none⟩) i c, fun yy _ => yy = .slice (some ⟨bb, o, none⟩) n c, fun yy _ => yy = .int .i64 (i : Nat), fun yy _ => yy = .pointer (some ⟨bb, o + i * 3, none⟩), fun yy _ => yy = Bv x, fun yy _ => yy = Bv b, fun yy W => Lst yy [b] W, fun yy W => Own W w.heap.size yy M, fun yy _ => yy = .slice (some ⟨bb, o, none⟩) n c, fun yy _ => yy = .int .i64 (i : Nat), fun yy _ => yy = .int .i64 ((i : Int) + 1), fun yy _ => yy = .slice TP (n - (i + 1)) (c - (i + 1)), fun yy W => ∃ g v1, yy = .slice (some ⟨g, 0, none⟩) 3 3 ∧ Parts g [.slice (some ⟨bb, o, none⟩) i c, v1, .slice TP (n - (i + 1)) (c - (i + 1))] [L.take i, M, L.drop (i + 1)] W, fun yy W => Own W w.heap.size yy (L.take i ++ M ++ L.drop (i + 1)), fun yy W => Own W w.heap.size yy (L.take i ++ M ++ L.drop (i + 1))] 23 (by kernel_rfl) (by kernel_rfl) rfl rfl (H0.step (Below.refl _ _).drew) ?_ ?_
  · refine ⟨⟨fun _ _ _ h _ => h, fun a' W K hC hd hf hK => ?_⟩, ⟨fun _ _ _ h _ => h, fun a' W K hC hd hf hK => ?_⟩, ⟨fun _ _ _ h _ => h, fun a' W K hC hd hf hK => ?_⟩, ⟨fun _ _ _ h _ => h, fun a' W K hC hd hf hK => ?_⟩, ⟨fun _ _ _ h _ => h, fun a' W K hC hd hf hK => ?_⟩, ⟨fun _ _ _ h _ => h, fun a' W K hC hd hf hK => ?_⟩, ⟨fun _ _ _ h _ => h, fun a' W K hC hd hf hK => ?_⟩, ⟨fun _ _ _ h _ => h, fun a' W K hC hd hf hK => ?_⟩, ⟨fun _ _ _ h hb => h.step hb, fun a' W K hC hd hf hK => ?_⟩, ⟨fun _ _ _ h hb => own_keep h hb, fun a' W K hC hd hf hK => ?_⟩, ⟨fun _ _ _ h _ => h, fun a' W K hC hd hf hK => ?_⟩, ⟨fun _ _ _ h _ => h, fun a' W K hC hd hf hK => ?_⟩, ⟨fun _ _ _ h _ => h, fun a' W K hC hd hf hK => ?_⟩, ⟨fun _ _ _ h _ => h, fun a' W K hC hd hf hK => ?_⟩, ⟨fun _ _ _ h hb => by obtain ⟨g, v1, e, hp⟩ := h; exact ⟨g, v1, e, hp.step hb⟩, fun a' W K hC hd hf hK => ?_⟩, ⟨fun _ _ _ h hb => own_keep h hb, fun a' W K hC hd hf hK => ?_⟩, ⟨fun _ _ _ h hb => own_keep h hb, fun a' W K hC hd hf hK => ?_⟩, trivial⟩
    · refine op_plain rfl ?_
      have f0 : a'.tmps[0]?.getD undef = .slice (some ⟨bb, o, none⟩) n c := (hf.out 0 (by kernel_rfl)).trans (by simp)
      go_simp
      exact hK.out _ _ hC (Below.refl _ _) rfl
    · refine op_plain rfl ?_
      have f1 : a'.tmps[1]?.getD undef = .int .i64 (i : Nat) := (hf.out 1 (by kernel_rfl)).trans (by simp)
      go_simp
      exact hK.out _ _ hC (Below.refl _ _) rfl
    · refine op_plain rfl ?_
      have d7 : a'.tmps[7]?.getD undef = .slice (some ⟨bb, o, none⟩) n c := hd.out 0 7 (by kernel_rfl) rfl
      have d8 : a'.tmps[8]?.getD undef = .int .i64 (i : Nat) := hd.out 1 8 (by kernel_rfl) rfl
      go_simp
      exact hK.out _ _ hC (Below.refl _ _) rfl
    · refine op_plain rfl ?_
      have f0 : a'.tmps[0]?.getD undef = .slice (some ⟨bb, o, none⟩) n c := (hf.out 0 (by kernel_rfl)).trans (by simp)
      go_simp
      exact hK.out _ _ hC (Below.refl _ _) rfl
    · refine op_plain rfl ?_
      have f1 : a'.tmps[1]?.getD undef = .int .i64 (i : Nat) := (hf.out 1 (by kernel_rfl)).trans (by simp)
      go_simp
      exact hK.out _ _ hC (Below.refl _ _) rfl
    · refine op_plain rfl ?_
      have d10 : a'.tmps[10]?.getD undef = .slice (some ⟨bb, o, none⟩) n c := hd.out 3 10 (by kernel_rfl) rfl
      have d11 : a'.tmps[11]?.getD undef = .int .i64 (i : Nat) := hd.out 4 11 (by kernel_rfl) rfl
      go_simp
      exact hK.out _ _ hC (Below.refl _ _) rfl
    · refine op_plain rfl ?_
      have d12 : a'.tmps[12]?.getD undef = .pointer (some ⟨bb, o + i * 3, none⟩) := hd.out 5 12 (by kernel_rfl) rfl
      obtain ⟨_, _, eb, _, u0, u1, u2⟩ := HX.out W hC
      cases eb
      go_simp
      exact hK.out _ _ hC (Below.refl _ _) rfl
    · refine op_plain rfl ?_
      have f5 : a'.tmps[5]?.getD undef = .pointer (some ⟨w.heap.size, 0, none⟩) := (hf.out 5 (by kernel_rfl)).trans (by simp)
      obtain ⟨_, ⟨z1, ⟨a0, a1, a2⟩, _⟩, _⟩ := id hC
      go_simp
      exact hK.out _ _ hC (Below.refl _ _) rfl
    · refine op_plain rfl ?_
      have d14 : a'.tmps[14]?.getD undef = Bv b := hd.out 7 14 (by kernel_rfl) rfl
      go_simp
      exact hK.out _ _ (HV.step hC (below_alloc _ _)) (below_alloc _ _) (lst_one (box_new _ _ _))
    · refine op_plain rfl ?_
      have d13 : a'.tmps[13]?.getD undef = Bv x := hd.out 6 13 (by kernel_rfl) rfl
      have d15 := hd.out 8 15 (by kernel_rfl) rfl
      go_simp
      refine (CA.out W _ d15).mono ?_
      rintro e W2 ⟨yy, rfl, hbW, hO⟩
      exact hK.out _ _ (HV.step hC hbW) hbW (own_base hO hC.1.size)
    · refine op_plain rfl ?_
      have f0 : a'.tmps[0]?.getD undef = .slice (some ⟨bb, o, none⟩) n c := (hf.out 0 (by kernel_rfl)).trans (by simp)
      go_simp
      exact hK.out _ _ hC (Below.refl _ _) rfl
    · refine op_plain rfl ?_
      have f1 : a'.tmps[1]?.getD undef = .int .i64 (i : Nat) := (hf.out 1 (by kernel_rfl)).trans (by simp)
      go_simp
      exact hK.out _ _ hC (Below.refl _ _) rfl
    · refine op_plain rfl ?_
      have d18 : a'.tmps[18]?.getD undef = .int .i64 (i : Nat) := hd.out 11 18 (by kernel_rfl) rfl
      go_simp
      exact hK.out _ _ hC (Below.refl _ _) rfl
    · refine op_plain rfl ?_
      have d17 : a'.tmps[17]?.getD undef = .slice (some ⟨bb, o, none⟩) n c := hd.out 10 17 (by kernel_rfl) rfl
      have d19 : a'.tmps[19]?.getD undef = .int .i64 ((i : Int) + 1) := hd.out 12 19 (by kernel_rfl) rfl
      go_simp
      rw [HTV.out]
      exact hK.out _ _ hC (Below.refl _ _) rfl
    · refine op_plain rfl ?_
      have d9 : a'.tmps[9]?.getD undef = .slice (some ⟨bb, o, none⟩) i c := hd.out 2 9 (by kernel_rfl) rfl
      have d16 := hd.out 9 16 (by kernel_rfl) rfl
      have d20 : a'.tmps[20]?.getD undef = .slice TP (n - (i + 1)) (c - (i + 1)) := hd.out 13 20 (by kernel_rfl) rfl
      obtain ⟨p16, c16, e16⟩ := lst_len (own_lst d16)
      rw [e16] at d16
      go_simp
      exact hK.out _ _ (HV.step hC (below_alloc _ _)) (below_alloc _ _) ⟨_, _, rfl, parts_three (TKL.out _ hC.2.2) (own_lst d16) (TVL.out _ hC.2.2)⟩
    · refine op_plain rfl ?_
      have d21 := hd.out 14 21 (by kernel_rfl) rfl
      obtain ⟨g, v1, e21, hp⟩ := d21
      go_simp
      refine (CC.out W g _ v1 _ hp).mono ?_
      rintro e W2 ⟨yy, rfl, hbW, hO⟩
      exact hK.out _ _ (HV.step hC hbW) hbW (own_base hO hC.1.size)
    · refine op_plain rfl ?_
      have d22 := hd.out 15 22 (by kernel_rfl) rfl
      go_simp
      exact hK.out _ _ hC (Below.refl _ _) d22
  · intro vs W5 hC hR
    have q0 : vs 0 = .slice (some ⟨bb, o, none⟩) n c := hR.out 0 (by decide)
    have q1 : vs 1 = .int .i64 (i : Nat) := hR.out 1 (by decide)
    have q2 : vs 2 = .slice (some ⟨bb, o, none⟩) i c := hR.out 2 (by decide)
    have q3 : vs 3 = .slice (some ⟨bb, o, none⟩) n c := hR.out 3 (by decide)
    have q4 : vs 4 = .int .i64 (i : Nat) := hR.out 4 (by decide)
    have q5 : vs 5 = .pointer (some ⟨bb, o + i * 3, none⟩) := hR.out 5 (by decide)
    have q6 : vs 6 = Bv x := hR.out 6 (by decide)
    have q7 : vs 7 = Bv b := hR.out 7 (by decide)
    generalize hq8 : vs 8 = q8
    generalize hq9 : vs 9 = q9
    have q10 : vs 10 = .slice (some ⟨bb, o, none⟩) n c := hR.out 10 (by decide)
    have q11 : vs 11 = .int .i64 (i : Nat) := hR.out 11 (by decide)
    have q12 : vs 12 = .int .i64 ((i : Int) + 1) := hR.out 12 (by decide)
    have q13 : vs 13 = .slice TP (n - (i + 1)) (c - (i + 1)) := hR.out 13 (by decide)
    generalize hq14 : vs 14 = q14
    generalize hq15 : vs 15 = q15
    have r16 := hR.out 16 (by decide)
    generalize hq16 : vs 16 = q16 at *
    change (fun yy W => Own W w.heap.size yy (L.take i ++ M ++ L.drop (i + 1))) q16 W5 at r16
    simp only [fillF, Act.put, List.setIfInBounds_toArray, List.set_cons_zero, List.set_cons_succ, Nat.reduceAdd, q0, q1, q2, q3, q4, q5, q6, q7, hq8, hq9, q10, q11, q12, q13, hq14, hq15, hq16]
    clear hR q0 q1 q2 q3 q4 q5 q6 q7 hq8 hq9 q10 q11 q12 q13 hq14 hq15 hq16
    have HB5 := hC.1
    clear H0 CA CC TKL TVL HTV HX hC
    go_wp2
    go_ret
    exact ⟨_, rfl, HB5, r16⟩
end Go.Proofs.Ytpieddddckbfdaa
