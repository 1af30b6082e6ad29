/-
  The reader of lease.Decode: the contract of run. Conditions: the bytes are no longer than an int, the place is from 0 to 2^62.
-/
import Derived.Test.YtgioifdmmneapaaLU
namespace Go.Proofs.Ytgioifdmmneapaa
open Go.RowKit Go.Joins

theorem takeV_size (s : ByteArray) (a : Int) : (takeV s a).size ≤ 65536 := by
  unfold takeV
  split
  · have := getV_lt 2 s a
    have h := cut_size_le (s := s) (a := a + 2) (S := getV 2 s a)
    omega
  · exact Nat.zero_le _
set_option maxRecDepth 100000 in
set_option maxHeartbeats 1000000 in
theorem rrun_any {w : World} {g : Nat} {s : ByteArray} {a e : Int} (h : RdAt w g s a e) (hs : s.size ≤ maxLen) (h0 : 0 ≤ a) (h1 : a ≤ 4611686018427387904) :
    Calls Try.prog 77 #[Pt g] w (Took w g s (takeE s a) (errS e (takeO s a) 3) (.string (takeV s a))) := by
  have G := hide (fun W => takeRun_any s hs (show I64 a by unfold I64; omega) W)
  have FL := hide (fun (W : World) (hW : RdAt W g s a e) => fail_any hW 3)
  have CL := hide (fun W => clone_any (takeV s a) (by have := takeV_size s a; omega) W)
  generalize takeV s a = p at *
  generalize takeE s a = nx at *
  have H := hide h
  clear h
  cases ho : takeO s a with
  | false =>
    rw [ho] at G
    clear ho
    go_enter Try.func77, Try.ntmps77
    go_wp2_with fail
    refine wp_region_rel (RC w g s a e) [some 7, some 8, some 9, some 10, some 11, some 12, some 13, some 14, some 15, some 6, some 16, some 17, some 18, some 3, some 4, some 5] [fun yy _ => yy = Pt g, fun yy _ => yy = Pt g, fun yy _ => yy = Pt g, fun yy _ => yy = .string s, fun yy _ => yy = Pt g, fun yy _ => yy = Pt g, fun yy _ => yy = .pointer (some ⟨g, 1, none⟩), fun yy _ => yy = .int .i64 a, fun yy _ => yy = .tuple #[.string p, .int .i64 nx, .bool false], fun yy _ => yy = .tuple #[.string p, .int .i64 nx, .bool false], fun yy _ => yy = .string p, fun yy _ => yy = .int .i64 nx, fun yy _ => yy = .bool false, fun yy _ => yy = .string p, fun yy _ => yy = .int .i64 nx, fun yy _ => yy = .bool false] 29 (by kernel_rfl) (by kernel_rfl) rfl rfl (⟨(Fr.refl _ _).andNo (Fr.drew _), H.out.no (Fr.drew _)⟩) ?_ ?_
    · refine ⟨⟨fun _ _ _ h _ => h, fun a' W K hC hd hf hK => ?_⟩, ⟨fun _ _ _ h _ => h, fun a' W K hC hd hf hK => ?_⟩, ⟨fun _ _ _ h _ => h, fun a' W K hC hd hf hK => ?_⟩, ⟨fun _ _ _ h _ => h, fun a' W K hC hd hf hK => ?_⟩, ⟨fun _ _ _ h _ => h, fun a' W K hC hd hf hK => ?_⟩, ⟨fun _ _ _ h _ => h, fun a' W K hC hd hf hK => ?_⟩, ⟨fun _ _ _ h _ => h, fun a' W K hC hd hf hK => ?_⟩, ⟨fun _ _ _ h _ => h, fun a' W K hC hd hf hK => ?_⟩, ⟨fun _ _ _ h _ => h, fun a' W K hC hd hf hK => ?_⟩, ⟨fun _ _ _ h _ => h, fun a' W K hC hd hf hK => ?_⟩, ⟨fun _ _ _ h _ => h, fun a' W K hC hd hf hK => ?_⟩, ⟨fun _ _ _ h _ => h, fun a' W K hC hd hf hK => ?_⟩, ⟨fun _ _ _ h _ => h, fun a' W K hC hd hf hK => ?_⟩, ⟨fun _ _ _ h _ => h, fun a' W K hC hd hf hK => ?_⟩, ⟨fun _ _ _ h _ => h, fun a' W K hC hd hf hK => ?_⟩, ⟨fun _ _ _ h _ => h, fun a' W K hC hd hf hK => ?_⟩, trivial⟩
      · have f0 : a'.tmps[0]?.getD undef = Pt g := (hf.out 0 (by kernel_rfl)).trans (by simp)
        go_simp
        exact hK.out _ _ hC (Below.refl _ _) rfl
      · have d7 : a'.tmps[7]?.getD undef = Pt g := hd.out 0 7 (by kernel_rfl) rfl
        go_simp
        exact hK.out _ _ hC (Below.refl _ _) rfl
      · have d8 : a'.tmps[8]?.getD undef = Pt g := hd.out 1 8 (by kernel_rfl) rfl
        go_simp
        exact hK.out _ _ hC (Below.refl _ _) rfl
      · have d9 : a'.tmps[9]?.getD undef = Pt g := hd.out 2 9 (by kernel_rfl) rfl
        have r0 := cell_at hC.2 0
        have r1 := cell_at hC.2 1
        simp at r0 r1
        go_simp
        exact hK.out _ _ hC (Below.refl _ _) rfl
      · have f0 : a'.tmps[0]?.getD undef = Pt g := (hf.out 0 (by kernel_rfl)).trans (by simp)
        go_simp
        exact hK.out _ _ hC (Below.refl _ _) rfl
      · have d11 : a'.tmps[11]?.getD undef = Pt g := hd.out 4 11 (by kernel_rfl) rfl
        go_simp
        exact hK.out _ _ hC (Below.refl _ _) rfl
      · have d12 : a'.tmps[12]?.getD undef = Pt g := hd.out 5 12 (by kernel_rfl) rfl
        go_simp
        exact hK.out _ _ hC (Below.refl _ _) rfl
      · have d13 : a'.tmps[13]?.getD undef = .pointer (some ⟨g, 1, none⟩) := hd.out 6 13 (by kernel_rfl) rfl
        have r0 := cell_at hC.2 0
        have r1 := cell_at hC.2 1
        simp at r0 r1
        go_simp
        exact hK.out _ _ hC (Below.refl _ _) rfl
      · have d10 : a'.tmps[10]?.getD undef = .string s := hd.out 3 10 (by kernel_rfl) rfl
        have d14 : a'.tmps[14]?.getD undef = .int .i64 a := hd.out 7 14 (by kernel_rfl) rfl
        go_simp; go_at_call 99; refine (G.out _).mono ?_; rintro en w2 ⟨rfl, rfl⟩; exact hK.out _ _ hC (Below.refl _ _) rfl
      · have d15 : a'.tmps[15]?.getD undef = .tuple #[.string p, .int .i64 nx, .bool false] := hd.out 8 15 (by kernel_rfl) rfl
        go_simp
        exact hK.out _ _ hC (Below.refl _ _) rfl
      · have d6 : a'.tmps[6]?.getD undef = .tuple #[.string p, .int .i64 nx, .bool false] := hd.out 9 6 (by kernel_rfl) rfl
        go_simp
        exact hK.out _ _ hC (Below.refl _ _) rfl
      · have d6 : a'.tmps[6]?.getD undef = .tuple #[.string p, .int .i64 nx, .bool false] := hd.out 9 6 (by kernel_rfl) rfl
        go_simp
        exact hK.out _ _ hC (Below.refl _ _) rfl
      · have d6 : a'.tmps[6]?.getD undef = .tuple #[.string p, .int .i64 nx, .bool false] := hd.out 9 6 (by kernel_rfl) rfl
        go_simp
        exact hK.out _ _ hC (Below.refl _ _) rfl
      · have d16 : a'.tmps[16]?.getD undef = .string p := hd.out 10 16 (by kernel_rfl) rfl
        go_simp
        exact hK.out _ _ hC (Below.refl _ _) rfl
      · have d17 : a'.tmps[17]?.getD undef = .int .i64 nx := hd.out 11 17 (by kernel_rfl) rfl
        go_simp
        exact hK.out _ _ hC (Below.refl _ _) rfl
      · have d18 : a'.tmps[18]?.getD undef = .bool false := hd.out 12 18 (by kernel_rfl) rfl
        go_simp
        exact hK.out _ _ hC (Below.refl _ _) rfl
    · intro vs wr hC hR
      have q0 : vs 0 = Pt g := hR.out 0 (by decide)
      have q1 : vs 1 = Pt g := hR.out 1 (by decide)
      have q2 : vs 2 = Pt g := hR.out 2 (by decide)
      have q3 : vs 3 = .string s := hR.out 3 (by decide)
      have q4 : vs 4 = Pt g := hR.out 4 (by decide)
      have q5 : vs 5 = Pt g := hR.out 5 (by decide)
      have q6 : vs 6 = .pointer (some ⟨g, 1, none⟩) := hR.out 6 (by decide)
      have q7 : vs 7 = .int .i64 a := hR.out 7 (by decide)
      have q8 : vs 8 = .tuple #[.string p, .int .i64 nx, .bool false] := hR.out 8 (by decide)
      have q9 : vs 9 = .tuple #[.string p, .int .i64 nx, .bool false] := hR.out 9 (by decide)
      have q10 : vs 10 = .string p := hR.out 10 (by decide)
      have q11 : vs 11 = .int .i64 nx := hR.out 11 (by decide)
      have q12 : vs 12 = .bool false := hR.out 12 (by decide)
      have q13 : vs 13 = .string p := hR.out 13 (by decide)
      have q14 : vs 14 = .int .i64 nx := hR.out 14 (by decide)
      have q15 : vs 15 = .bool false := hR.out 15 (by decide)
      simp only [fillF, Act.put, List.setIfInBounds_toArray, List.set_cons_zero, List.set_cons_succ, Nat.reduceAdd, q0, q1, q2, q3, q4, q5, q6, q7, q8, q9, q10, q11, q12, q13, q14, q15]
      clear hR q0 q1 q2 q3 q4 q5 q6 q7 q8 q9 q10 q11 q12 q13 q14 q15
      obtain ⟨F1, H1⟩ := hC
      go_wp2_with fail
      refine (FL.out _ H1).mono ?_
      rintro en w2 ⟨rfl, F2, H2⟩
      have F3 := (F1.no (S := fun k => k = g)).same F2
      have H3 := hide H2
      have k1 := cell_at H2 1
      have f1 := free_at H2 1
      simp at k1
      clear H2
      go_wp2_with fail
      refine (CL.out _).mono ?_
      rintro en w6 ⟨rfl, hb6⟩
      have R7 := hide (show RdAt w6 g s nx (errS e false 3) from RdAt.no (show RdAt (w2.setCell ⟨g, 1, none⟩ (.int .i64 nx)) g s nx (errS e false 3) from by
        show _ = _
        rw [set_block H3.out 1]; rfl) (Fr.ofBelow hb6))
      have F7 := (F3.same (fr_set2 (i := 1) (u := .int .i64 nx))).andNo (Fr.ofBelow hb6)
      go_wp2
      go_ret
      exact ⟨rfl, F7, R7.out⟩
  | true =>
    rw [ho] at G
    clear ho
    go_enter Try.func77, Try.ntmps77
    go_wp2_with fail
    refine wp_region_rel (RC w g s a e) [some 7, some 8, some 9, some 10, some 11, some 12, some 13, some 14, some 15, some 6, some 16, some 17, some 18, some 3, some 4, some 5] [fun yy _ => yy = Pt g, fun yy _ => yy = Pt g, fun yy _ => yy = Pt g, fun yy _ => yy = .string s, fun yy _ => yy = Pt g, fun yy _ => yy = Pt g, fun yy _ => yy = .pointer (some ⟨g, 1, none⟩), fun yy _ => yy = .int .i64 a, fun yy _ => yy = .tuple #[.string p, .int .i64 nx, .bool true], fun yy _ => yy = .tuple #[.string p, .int .i64 nx, .bool true], fun yy _ => yy = .string p, fun yy _ => yy = .int .i64 nx, fun yy _ => yy = .bool true, fun yy _ => yy = .string p, fun yy _ => yy = .int .i64 nx, fun yy _ => yy = .bool true] 29 (by kernel_rfl) (by kernel_rfl) rfl rfl (⟨(Fr.refl _ _).andNo (Fr.drew _), H.out.no (Fr.drew _)⟩) ?_ ?_
    · refine ⟨⟨fun _ _ _ h _ => h, fun a' W K hC hd hf hK => ?_⟩, ⟨fun _ _ _ h _ => h, fun a' W K hC hd hf hK => ?_⟩, ⟨fun _ _ _ h _ => h, fun a' W K hC hd hf hK => ?_⟩, ⟨fun _ _ _ h _ => h, fun a' W K hC hd hf hK => ?_⟩, ⟨fun _ _ _ h _ => h, fun a' W K hC hd hf hK => ?_⟩, ⟨fun _ _ _ h _ => h, fun a' W K hC hd hf hK => ?_⟩, ⟨fun _ _ _ h _ => h, fun a' W K hC hd hf hK => ?_⟩, ⟨fun _ _ _ h _ => h, fun a' W K hC hd hf hK => ?_⟩, ⟨fun _ _ _ h _ => h, fun a' W K hC hd hf hK => ?_⟩, ⟨fun _ _ _ h _ => h, fun a' W K hC hd hf hK => ?_⟩, ⟨fun _ _ _ h _ => h, fun a' W K hC hd hf hK => ?_⟩, ⟨fun _ _ _ h _ => h, fun a' W K hC hd hf hK => ?_⟩, ⟨fun _ _ _ h _ => h, fun a' W K hC hd hf hK => ?_⟩, ⟨fun _ _ _ h _ => h, fun a' W K hC hd hf hK => ?_⟩, ⟨fun _ _ _ h _ => h, fun a' W K hC hd hf hK => ?_⟩, ⟨fun _ _ _ h _ => h, fun a' W K hC hd hf hK => ?_⟩, trivial⟩
      · have f0 : a'.tmps[0]?.getD undef = Pt g := (hf.out 0 (by kernel_rfl)).trans (by simp)
        go_simp
        exact hK.out _ _ hC (Below.refl _ _) rfl
      · have d7 : a'.tmps[7]?.getD undef = Pt g := hd.out 0 7 (by kernel_rfl) rfl
        go_simp
        exact hK.out _ _ hC (Below.refl _ _) rfl
      · have d8 : a'.tmps[8]?.getD undef = Pt g := hd.out 1 8 (by kernel_rfl) rfl
        go_simp
        exact hK.out _ _ hC (Below.refl _ _) rfl
      · have d9 : a'.tmps[9]?.getD undef = Pt g := hd.out 2 9 (by kernel_rfl) rfl
        have r0 := cell_at hC.2 0
        have r1 := cell_at hC.2 1
        simp at r0 r1
        go_simp
        exact hK.out _ _ hC (Below.refl _ _) rfl
      · have f0 : a'.tmps[0]?.getD undef = Pt g := (hf.out 0 (by kernel_rfl)).trans (by simp)
        go_simp
        exact hK.out _ _ hC (Below.refl _ _) rfl
      · have d11 : a'.tmps[11]?.getD undef = Pt g := hd.out 4 11 (by kernel_rfl) rfl
        go_simp
        exact hK.out _ _ hC (Below.refl _ _) rfl
      · have d12 : a'.tmps[12]?.getD undef = Pt g := hd.out 5 12 (by kernel_rfl) rfl
        go_simp
        exact hK.out _ _ hC (Below.refl _ _) rfl
      · have d13 : a'.tmps[13]?.getD undef = .pointer (some ⟨g, 1, none⟩) := hd.out 6 13 (by kernel_rfl) rfl
        have r0 := cell_at hC.2 0
        have r1 := cell_at hC.2 1
        simp at r0 r1
        go_simp
        exact hK.out _ _ hC (Below.refl _ _) rfl
      · have d10 : a'.tmps[10]?.getD undef = .string s := hd.out 3 10 (by kernel_rfl) rfl
        have d14 : a'.tmps[14]?.getD undef = .int .i64 a := hd.out 7 14 (by kernel_rfl) rfl
        go_simp; go_at_call 99; refine (G.out _).mono ?_; rintro en w2 ⟨rfl, rfl⟩; exact hK.out _ _ hC (Below.refl _ _) rfl
      · have d15 : a'.tmps[15]?.getD undef = .tuple #[.string p, .int .i64 nx, .bool true] := hd.out 8 15 (by kernel_rfl) rfl
        go_simp
        exact hK.out _ _ hC (Below.refl _ _) rfl
      · have d6 : a'.tmps[6]?.getD undef = .tuple #[.string p, .int .i64 nx, .bool true] := hd.out 9 6 (by kernel_rfl) rfl
        go_simp
        exact hK.out _ _ hC (Below.refl _ _) rfl
      · have d6 : a'.tmps[6]?.getD undef = .tuple #[.string p, .int .i64 nx, .bool true] := hd.out 9 6 (by kernel_rfl) rfl
        go_simp
        exact hK.out _ _ hC (Below.refl _ _) rfl
      · have d6 : a'.tmps[6]?.getD undef = .tuple #[.string p, .int .i64 nx, .bool true] := hd.out 9 6 (by kernel_rfl) rfl
        go_simp
        exact hK.out _ _ hC (Below.refl _ _) rfl
      · have d16 : a'.tmps[16]?.getD undef = .string p := hd.out 10 16 (by kernel_rfl) rfl
        go_simp
        exact hK.out _ _ hC (Below.refl _ _) rfl
      · have d17 : a'.tmps[17]?.getD undef = .int .i64 nx := hd.out 11 17 (by kernel_rfl) rfl
        go_simp
        exact hK.out _ _ hC (Below.refl _ _) rfl
      · have d18 : a'.tmps[18]?.getD undef = .bool true := hd.out 12 18 (by kernel_rfl) rfl
        go_simp
        exact hK.out _ _ hC (Below.refl _ _) rfl
    · intro vs wr hC hR
      have q0 : vs 0 = Pt g := hR.out 0 (by decide)
      have q1 : vs 1 = Pt g := hR.out 1 (by decide)
      have q2 : vs 2 = Pt g := hR.out 2 (by decide)
      have q3 : vs 3 = .string s := hR.out 3 (by decide)
      have q4 : vs 4 = Pt g := hR.out 4 (by decide)
      have q5 : vs 5 = Pt g := hR.out 5 (by decide)
      have q6 : vs 6 = .pointer (some ⟨g, 1, none⟩) := hR.out 6 (by decide)
      have q7 : vs 7 = .int .i64 a := hR.out 7 (by decide)
      have q8 : vs 8 = .tuple #[.string p, .int .i64 nx, .bool true] := hR.out 8 (by decide)
      have q9 : vs 9 = .tuple #[.string p, .int .i64 nx, .bool true] := hR.out 9 (by decide)
      have q10 : vs 10 = .string p := hR.out 10 (by decide)
      have q11 : vs 11 = .int .i64 nx := hR.out 11 (by decide)
      have q12 : vs 12 = .bool true := hR.out 12 (by decide)
      have q13 : vs 13 = .string p := hR.out 13 (by decide)
      have q14 : vs 14 = .int .i64 nx := hR.out 14 (by decide)
      have q15 : vs 15 = .bool true := hR.out 15 (by decide)
      simp only [fillF, Act.put, List.setIfInBounds_toArray, List.set_cons_zero, List.set_cons_succ, Nat.reduceAdd, q0, q1, q2, q3, q4, q5, q6, q7, q8, q9, q10, q11, q12, q13, q14, q15]
      clear hR q0 q1 q2 q3 q4 q5 q6 q7 q8 q9 q10 q11 q12 q13 q14 q15
      obtain ⟨F1, H1⟩ := hC
      have F3 := F1.no (S := fun k => k = g)
      have H3 := hide H1
      have k1 := cell_at H1 1
      have f1 := free_at H1 1
      simp at k1
      clear H1
      go_wp2_with fail
      refine (CL.out _).mono ?_
      rintro en w6 ⟨rfl, hb6⟩
      have R7 := hide (show RdAt w6 g s nx (errS e true 3) from RdAt.no (show RdAt (wr.setCell ⟨g, 1, none⟩ (.int .i64 nx)) g s nx (errS e true 3) from by
        show _ = _
        rw [set_block H3.out 1]; rfl) (Fr.ofBelow hb6))
      have F7 := (F3.same (fr_set2 (i := 1) (u := .int .i64 nx))).andNo (Fr.ofBelow hb6)
      go_wp2
      go_ret
      exact ⟨rfl, F7, R7.out⟩
end Go.Proofs.Ytgioifdmmneapaa
