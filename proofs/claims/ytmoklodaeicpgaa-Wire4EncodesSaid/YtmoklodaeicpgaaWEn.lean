/-
  The law Wire4Encodes: messages are written as the document says. Condition: a row of options takes at most 2^47 bytes.
-/
import Derived.Test.YtmoklodaeicpgaaWEn1
import Derived.Test.YtmoklodaeicpgaaTbRg
namespace Go.Proofs.Ytmoklodaeicpgaa
open Go.RowKit Go.Joins

set_option maxRecDepth 100000 in
set_option maxHeartbeats 8000000 in
theorem encodes_any (m : Hd) {v : Value} {l : List Opt} (hl : l.length * 24 ≤ 140737488355328) (w : World) (hv : LstO v l w) :
    Calls Try.prog 3 #[MV m v] w (Gives (.bool true) w) := by
  have B0 := hide (box_new w m v)
  have D0 := hide (below_alloc w (.cells (cellsM m v) 26))
  have HV := hide (fun W (H : Below w.heap.size w W) => hv.step H)
  have AW := hide (fun W => awake_any W)
  have BL := hide (fun W => blank_any W)
  have RB := hide (fun W => rblank_any W)
  have SB := hide (fun W => same_yes blankH (va := .slice none 0 0) (vb := .slice none 0 0) (l := []) (by simp) W (lst_nil W) (lst_nil W))
  have EN := hide (fun W (h : LstO v l W) => (show Calls Try.prog 12 #[MV m v] W (EncP (m, l) W) from encode_any m hl W h))
  have RN := hide (fun W (h : LstO v l W) => (show Calls Try.prog 13 #[MV m v] W (EncP (m, l) W) from rencode_any m hl W h))
  have SO := hide (fun W (h : LstO v l W) => msound_any m hl W h)
  have RS := hide (fun W (h : LstO v l W) => rsound_any m hl W h)
  clear hv
  go_enter Try.func3, Try.ntmps3
  go_wp2_with fail
  refine (AW.out _).mono ?_
  rintro e w1 ⟨rfl, hb1⟩
  have B1 := hide (B0.out.step hb1)
  have D1 := hide (D0.out.trans (hb1.mono D0.out.size))
  clear hb1 B0 D0 AW
  go_wp2_with fail
  refine (BL.out _).mono ?_
  rintro e w2 ⟨rfl, hb2⟩
  have B2 := hide (B1.out.step hb2)
  have D2 := hide (D1.out.trans (hb2.mono D1.out.size))
  clear hb2 B1 D1 BL
  go_wp2_with fail
  refine (RB.out _).mono ?_
  rintro e w3 ⟨rfl, hb3⟩
  have B3 := hide (B2.out.step hb3)
  have D3 := hide (D2.out.trans (hb3.mono D2.out.size))
  clear hb3 B2 D2 RB
  go_wp2_with fail
  refine (SB.out _).mono ?_
  rintro e w4 ⟨rfl, hb4⟩
  have B4 := hide (B3.out.step hb4)
  have D4 := hide (D3.out.trans (hb4.mono D3.out.size))
  clear hb4 B3 D3 SB
  go_wp2_with (refine wpList_load_box rfl (.tmp 1) rfl w.heap.size m v rfl B4.out ?_)
  refine (EN.out _ (HV.out _ D4.out)).mono ?_
  rintro e w5 ⟨rfl, hb5⟩
  have B5 := hide (B4.out.step hb5)
  have D5 := hide (D4.out.trans (hb5.mono D4.out.size))
  clear hb5 B4 D4 EN
  go_wp2_with (refine wpList_load_box rfl (.tmp 1) rfl w.heap.size m v rfl B5.out ?_)
  refine (RN.out _ (HV.out _ D5.out)).mono ?_
  rintro e w6 ⟨rfl, hb6⟩
  have HR := hide (show RE w w.heap.size m v w6 from ⟨D5.out.trans (hb6.mono D5.out.size), B5.out.step hb6⟩)
  clear hb6 B5 D5 RN
  generalize bs (encS (m, l)) = S at *
  generalize encE (m, l) = n at *
  generalize soundM (m, l) = so at *
  go_wp2_with fail
  refine wp_region_rel (RE w w.heap.size m v) [some 25, some 26, some 27, some 28, some 29, some 30, some 31, some 32, some 33, some 34, some 35, some 36, some 37, some 38, some 39, some 2] [fun yy _ => yy = .string S, fun yy _ => yy = .string S, fun yy _ => yy = .bool true, fun yy _ => yy = .bool true, fun yy _ => yy = .int .i64 (n : Nat), fun yy _ => yy = .int .i64 (n : Nat), fun yy _ => yy = .bool true, fun yy _ => yy = .bool true, fun yy _ => yy = .bool true, fun yy _ => yy = MV m v, fun yy _ => yy = .bool so, fun yy _ => yy = MV m v, fun yy _ => yy = .bool so, fun yy _ => yy = .bool true, fun yy _ => yy = .bool true, fun yy _ => yy = .bool true] 40 (by kernel_rfl) (by kernel_rfl) rfl rfl (HR.out.drew) ?_ ?_
  · refine ⟨⟨fun _ _ _ h _ => h, fun a' W K hC hd hf hK => ?_⟩, ⟨fun _ _ _ h _ => h, fun a' W K hC hd hf hK => ?_⟩, ⟨fun _ _ _ h _ => h, fun a' W K hC hd hf hK => ?_⟩, ⟨fun _ _ _ h _ => h, fun a' W K hC hd hf hK => ?_⟩, ⟨fun _ _ _ h _ => h, fun a' W K hC hd hf hK => ?_⟩, ⟨fun _ _ _ h _ => h, fun a' W K hC hd hf hK => ?_⟩, ⟨fun _ _ _ h _ => h, fun a' W K hC hd hf hK => ?_⟩, ⟨fun _ _ _ h _ => h, fun a' W K hC hd hf hK => ?_⟩, ⟨fun _ _ _ h _ => h, fun a' W K hC hd hf hK => ?_⟩, ⟨fun _ _ _ h _ => h, fun a' W K hC hd hf hK => ?_⟩, ⟨fun _ _ _ h _ => h, fun a' W K hC hd hf hK => ?_⟩, ⟨fun _ _ _ h _ => h, fun a' W K hC hd hf hK => ?_⟩, ⟨fun _ _ _ h _ => h, fun a' W K hC hd hf hK => ?_⟩, ⟨fun _ _ _ h _ => h, fun a' W K hC hd hf hK => ?_⟩, ⟨fun _ _ _ h _ => h, fun a' W K hC hd hf hK => ?_⟩, ⟨fun _ _ _ h _ => h, fun a' W K hC hd hf hK => ?_⟩, trivial⟩
    · refine op_plain rfl ?_
      have f3 : a'.tmps[3]?.getD undef = .string S := (hf.out 3 (by kernel_rfl)).trans (by simp)
      go_simp
      exact hK.out _ _ hC (Below.refl _ _) rfl
    · refine op_plain rfl ?_
      have f5 : a'.tmps[5]?.getD undef = .string S := (hf.out 5 (by kernel_rfl)).trans (by simp)
      go_simp
      exact hK.out _ _ hC (Below.refl _ _) rfl
    · refine op_plain rfl ?_
      have d25 : a'.tmps[25]?.getD undef = .string S := hd.out 0 25 (by kernel_rfl) rfl
      have d26 : a'.tmps[26]?.getD undef = .string S := hd.out 1 26 (by kernel_rfl) rfl
      go_simp
      exact hK.out _ _ hC (Below.refl _ _) rfl
    · refine op_plain rfl ?_
      have d27 : a'.tmps[27]?.getD undef = .bool true := hd.out 2 27 (by kernel_rfl) rfl
      go_simp
      exact hK.out _ _ hC (Below.refl _ _) rfl
    · have gd : a'.tmps[28]?.getD undef = .bool true := hd.out 3 28 (by kernel_rfl) rfl
      refine op_yes rfl (by kernel_rfl) gd ?_
      clear gd
      have f4 : a'.tmps[4]?.getD undef = .int .i64 (n : Nat) := (hf.out 4 (by kernel_rfl)).trans (by simp)
      go_simp
      exact hK.out _ _ hC (Below.refl _ _) rfl
    · have gd : a'.tmps[28]?.getD undef = .bool true := hd.out 3 28 (by kernel_rfl) rfl
      refine op_yes rfl (by kernel_rfl) gd ?_
      clear gd
      have f6 : a'.tmps[6]?.getD undef = .int .i64 (n : Nat) := (hf.out 6 (by kernel_rfl)).trans (by simp)
      go_simp
      exact hK.out _ _ hC (Below.refl _ _) rfl
    · have gd : a'.tmps[28]?.getD undef = .bool true := hd.out 3 28 (by kernel_rfl) rfl
      refine op_yes rfl (by kernel_rfl) gd ?_
      clear gd
      have d29 : a'.tmps[29]?.getD undef = .int .i64 (n : Nat) := hd.out 4 29 (by kernel_rfl) rfl
      have d30 : a'.tmps[30]?.getD undef = .int .i64 (n : Nat) := hd.out 5 30 (by kernel_rfl) rfl
      go_simp
      exact hK.out _ _ hC (Below.refl _ _) rfl
    · refine op_plain rfl ?_
      have d28 : a'.tmps[28]?.getD undef = .bool true := hd.out 3 28 (by kernel_rfl) rfl
      have d31 : a'.tmps[31]?.getD undef = .bool true := hd.out 6 31 (by kernel_rfl) rfl
      go_simp
      exact hK.out _ _ hC (Below.refl _ _) rfl
    · refine op_plain rfl ?_
      have d32 : a'.tmps[32]?.getD undef = .bool true := hd.out 7 32 (by kernel_rfl) rfl
      go_simp
      exact hK.out _ _ hC (Below.refl _ _) rfl
    · have gd : a'.tmps[33]?.getD undef = .bool true := hd.out 8 33 (by kernel_rfl) rfl
      refine op_yes rfl (by kernel_rfl) gd ?_
      clear gd
      have f1 : a'.tmps[1]?.getD undef = .pointer (some ⟨w.heap.size, 0, none⟩) := (hf.out 1 (by kernel_rfl)).trans (by simp)
      obtain ⟨d0, d1, d2, d3, d4, d5, d6, d7, d8, d9, d10, d11, d12, d13, d14⟩ := hC.2.cells
      go_simp
      exact hK.out _ _ hC (Below.refl _ _) rfl
    · have gd : a'.tmps[33]?.getD undef = .bool true := hd.out 8 33 (by kernel_rfl) rfl
      refine op_yes rfl (by kernel_rfl) gd ?_
      clear gd
      have d34 : a'.tmps[34]?.getD undef = MV m v := hd.out 9 34 (by kernel_rfl) rfl
      go_simp
      go_at_call 14
      refine (SO.out W (HV.out W hC.1)).mono ?_
      rintro e w5 ⟨rfl, hb5⟩
      exact hK.out _ _ (hC.step hb5) hb5 rfl
    · have gd : a'.tmps[33]?.getD undef = .bool true := hd.out 8 33 (by kernel_rfl) rfl
      refine op_yes rfl (by kernel_rfl) gd ?_
      clear gd
      have f1 : a'.tmps[1]?.getD undef = .pointer (some ⟨w.heap.size, 0, none⟩) := (hf.out 1 (by kernel_rfl)).trans (by simp)
      obtain ⟨d0, d1, d2, d3, d4, d5, d6, d7, d8, d9, d10, d11, d12, d13, d14⟩ := hC.2.cells
      go_simp
      exact hK.out _ _ hC (Below.refl _ _) rfl
    · have gd : a'.tmps[33]?.getD undef = .bool true := hd.out 8 33 (by kernel_rfl) rfl
      refine op_yes rfl (by kernel_rfl) gd ?_
      clear gd
      have d36 : a'.tmps[36]?.getD undef = MV m v := hd.out 11 36 (by kernel_rfl) rfl
      go_simp
      go_at_call 15
      refine (RS.out W (HV.out W hC.1)).mono ?_
      rintro e w5 ⟨rfl, hb5⟩
      exact hK.out _ _ (hC.step hb5) hb5 rfl
    · have gd : a'.tmps[33]?.getD undef = .bool true := hd.out 8 33 (by kernel_rfl) rfl
      refine op_yes rfl (by kernel_rfl) gd ?_
      clear gd
      have d35 : a'.tmps[35]?.getD undef = .bool so := hd.out 10 35 (by kernel_rfl) rfl
      have d37 : a'.tmps[37]?.getD undef = .bool so := hd.out 12 37 (by kernel_rfl) rfl
      go_simp
      exact hK.out _ _ hC (Below.refl _ _) rfl
    · refine op_plain rfl ?_
      have d33 : a'.tmps[33]?.getD undef = .bool true := hd.out 8 33 (by kernel_rfl) rfl
      have d38 : a'.tmps[38]?.getD undef = .bool true := hd.out 13 38 (by kernel_rfl) rfl
      go_simp
      exact hK.out _ _ hC (Below.refl _ _) rfl
    · refine op_plain rfl ?_
      have d39 : a'.tmps[39]?.getD undef = .bool true := hd.out 14 39 (by kernel_rfl) rfl
      go_simp
      exact hK.out _ _ hC (Below.refl _ _) rfl
  · intro vs W5 H5 hR
    have q0 : vs 0 = .string S := hR.out 0 (by decide)
    have q1 : vs 1 = .string S := hR.out 1 (by decide)
    have q2 : vs 2 = .bool true := hR.out 2 (by decide)
    have q3 : vs 3 = .bool true := hR.out 3 (by decide)
    have q4 : vs 4 = .int .i64 (n : Nat) := hR.out 4 (by decide)
    have q5 : vs 5 = .int .i64 (n : Nat) := hR.out 5 (by decide)
    have q6 : vs 6 = .bool true := hR.out 6 (by decide)
    have q7 : vs 7 = .bool true := hR.out 7 (by decide)
    have q8 : vs 8 = .bool true := hR.out 8 (by decide)
    have q9 : vs 9 = MV m v := hR.out 9 (by decide)
    have q10 : vs 10 = .bool so := hR.out 10 (by decide)
    have q11 : vs 11 = MV m v := hR.out 11 (by decide)
    have q12 : vs 12 = .bool so := hR.out 12 (by decide)
    have q13 : vs 13 = .bool true := hR.out 13 (by decide)
    have q14 : vs 14 = .bool true := hR.out 14 (by decide)
    have q15 : vs 15 = .bool true := hR.out 15 (by decide)
    simp only [fillF, Act.put, List.setIfInBounds_toArray, List.set_cons_zero, List.set_cons_succ, Nat.reduceAdd, q0, q1, q2, q3, q4, q5, q6, q7, q8, q9, q10, q11, q12, q13, q14, q15]
    clear hR q0 q1 q2 q3 q4 q5 q6 q7 q8 q9 q10 q11 q12 q13 q14 q15
    go_wp2
    go_ret
    exact ⟨rfl, H5.1⟩
end Go.Proofs.Ytmoklodaeicpgaa
