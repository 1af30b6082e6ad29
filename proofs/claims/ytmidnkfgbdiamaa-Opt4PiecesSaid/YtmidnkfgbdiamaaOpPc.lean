/-
  The walk of the law Opt4Pieces: it returns true. Condition: a slice of ints is no longer than an int.
-/
import Derived.Test.YtmidnkfgbdiamaaOpPm
import Derived.Test.YtmidnkfgbdiamaaTbRg
import Derived.Deep.DeepCutAuto
namespace Go.Proofs.Ytmidnkfgbdiamaa
open Go.RowKit Go.Joins Go.Maps

theorem cut_num (x : Int) : wrap64 ((IntKind.u64.wrap x).tmod 256) = x % 256 := by
  rw [IntKind.wrap_u64, Int.tmod_eq_emod_of_nonneg (by omega), IntWalk.wrap64_in _ ⟨by omega, by omega⟩]
  omega
set_option maxRecDepth 100000 in
set_option maxHeartbeats 4000000 in
theorem lawpieces_any (code : UInt8) (data : ByteArray) {v : Value} {cs : List Int} (h64 : ∀ x ∈ cs, I64 x) (w : World) (hv : LstI v cs w) :
    Calls Try.prog 6 #[KV code, .string data, v] w (Gives (.bool true) w) := by
  have HV := hide (fun W (H : Below w.heap.size w W) => hv.step H)
  have H64 := hide h64
  obtain ⟨p, c, rfl⟩ := lstI_len hv
  have AW := hide awake_any
  clear hv h64
  by_cases hd : 4096 < data.size
  · have P1 : (4096 : Int) < (data.size : Int) := by omega
    go_enter Try.func6, Try.ntmps6
    go_wp2_with fail
    refine (AW.out w).mono ?_
    rintro e w1 ⟨rfl, hb1⟩
    have B1 := hide hb1
    clear hb1
    go_wp2_with fail
    refine (AW.out w1).mono ?_
    rintro e w2 ⟨rfl, hb2⟩
    have B2 := hide (chain B1.out hb2)
    clear hb2
    go_wp2
    go_ret
    exact ⟨rfl, B2.out⟩
  · have P1 : ¬ (4096 : Int) < (data.size : Int) := by omega
    by_cases hc : code = 0 ∨ code = 255
    · rcases hc with hc | hc
      · subst hc
        have P2 : (((0 : UInt8).toNat : Nat) : Int) = 0 := rfl
        go_enter Try.func6, Try.ntmps6
        go_wp2_with fail
        refine (AW.out w).mono ?_
        rintro e w1 ⟨rfl, hb1⟩
        have B1 := hide hb1
        clear hb1
        go_wp2
        go_ret
        exact ⟨rfl, B1.out⟩
      · subst hc
        have P2 : (((255 : UInt8).toNat : Nat) : Int) = 255 := rfl
        go_enter Try.func6, Try.ntmps6
        go_wp2_with fail
        refine (AW.out w).mono ?_
        rintro e w1 ⟨rfl, hb1⟩
        have B1 := hide hb1
        clear hb1
        go_wp2
        go_ret
        exact ⟨rfl, B1.out⟩
    · have C0 := hide (show code ≠ 0 from fun e => hc (Or.inl e))
      have C255 := hide (show code ≠ 255 from fun e => hc (Or.inr e))
      have P2 : ¬ (code.toNat : Int) = 0 := byte_ne C0.out
      have P3 : ¬ (code.toNat : Int) = 255 := byte_ne C255.out
      have P4 : ((code.toNat : Int) == 0) = false := beq_eq_false_iff_ne.2 P2
      have P5 : ((code.toNat : Int) == 255) = false := beq_eq_false_iff_ne.2 P3
      have hd4 : data.size ≤ 4096 := by omega
      have hlb := hide (show (lb data).length ≤ 4096 by rw [lb_len]; exact hd4)
      clear hc hd
      go_enter Try.func6, Try.ntmps6
      go_wp2_with fail
      refine (AW.out w).mono ?_
      rintro e w1 ⟨rfl, hb1⟩
      have H1 : HP w (.slice none 0 0) (.slice none 0 0) [] [] w1 := ⟨hb1, ownB_nil _ _, ownS_nil _ _⟩
      clear hb1
      go_wp2_with fail
      clear P4 P5
      go_loopw [7, 8, 9, 10] (fun u7 u8 u9 u10 wr => ∃ (i at_ : Nat) (one : List UInt8) (ar : List ByteArray), u9 = .int .i64 (at_ : Nat) ∧ u10 = .int .i64 (i : Nat) ∧ at_ ≤ data.size ∧ i ≤ 64 + at_ ∧ HP w u7 u8 one ar wr ∧ Hid (PInv code (lb data) i at_ one ar) ∧ (0 < i → 0 < data.size)) (fun _ _ u9 u10 _ => (64 - (intOf u10).toNat) + (data.size - (intOf u9).toNat))
      case atStart => exact ⟨0, 0, [], [], rfl, rfl, Nat.zero_le _, Nat.zero_le _, H1, hide (pinv_nil _ _), fun h => absurd h (Nat.lt_irrefl _)⟩
      case round =>
        obtain ⟨i, at_, one, ar, rfl, rfl, hat, hi, HH0, PI, hpos⟩ := hrel
        clear H1
        by_cases hlt : at_ < data.size
        · have HH := hide HH0
          clear HH0
          go_upto_if 40 with fail
          go_cut [11] (fun s11 wx => (∃ n0 : Nat, n0 ≤ 255 ∧ s11 = .int .i64 (n0 : Nat)) ∧ wr = wx)
          case first =>
            by_cases hic : i < cs.length
            · obtain ⟨x, hx⟩ : ∃ x, cs[i]? = some x := ⟨_, List.getElem?_eq_getElem hic⟩
              obtain ⟨b, o, c', e, _, x1⟩ := lstI_at (HV.out _ HH.out.1) hx
              obtain ⟨rfl, rfl⟩ : p = some ⟨b, o, none⟩ ∧ c = c' := by injection e with e1 _ e2; exact ⟨e1, e2⟩
              obtain ⟨hx1, hx2⟩ := H64.out x (List.mem_of_getElem? hx)
              clear e hx
              go_wp2
              go_meet
              exact ⟨⟨(x % 256).toNat, by omega, int_eq (by rw [cut_num]; omega)⟩, rfl⟩
            · go_wp2
              go_meet
              exact ⟨⟨255, Nat.le_refl _, rfl⟩, rfl⟩
          case rest =>
            obtain ⟨⟨n0, hn0, rfl⟩, rfl⟩ := hcut
            go_upto_region 14 with fail
            go_cut [11, 53] (fun s11 s53 wx => s11 = .int .i64 (n0 : Nat) ∧ s53 = .bool (decide (64 ≤ i ∧ n0 = 0)) ∧ wr = wx)
            case first =>
              by_cases h64 : 64 ≤ i
              · have Q1 : (64 : Int) ≤ (i : Int) := by omega
                by_cases hz : n0 = 0
                · have D := hide (decide_eq_true (p := 64 ≤ i ∧ n0 = 0) ⟨h64, hz⟩)
                  have Q2 : ((n0 : Int) == 0) = true := by rw [hz]; rfl
                  clear hz
                  go_wp2
                  go_meet
                  exact ⟨rfl, by rw [D.out], rfl⟩
                · have D := hide (decide_eq_false (p := 64 ≤ i ∧ n0 = 0) (fun h => hz h.2))
                  have Q2 : ((n0 : Int) == 0) = false := beq_eq_false_iff_ne.2 (by omega)
                  go_wp2
                  go_meet
                  exact ⟨rfl, by rw [D.out], rfl⟩
              · have D := hide (decide_eq_false (p := 64 ≤ i ∧ n0 = 0) (fun h => h64 h.1))
                have Q1 : ¬ (64 : Int) ≤ (i : Int) := by omega
                go_wp2
                go_meet
                exact ⟨rfl, by rw [D.out], rfl⟩
            case rest =>
            obtain ⟨rfl, rfl, rfl⟩ := hcut
            go_upto_if 53 with fail
            go_cut [11] (fun s11 wx => (∃ n1 : Nat, n1 ≤ 255 ∧ (64 ≤ i → 1 ≤ n1) ∧ s11 = .int .i64 (n1 : Nat)) ∧ wr = wx)
            case first =>
              by_cases hz : 64 ≤ i ∧ n0 = 0
              · have D := decide_eq_true hz
                go_wp2
                go_meet
                exact ⟨⟨1, by omega, fun _ => Nat.le_refl _, rfl⟩, rfl⟩
              · have D := decide_eq_false hz
                go_wp2
                go_meet
                exact ⟨⟨n0, hn0, fun h => by omega, rfl⟩, rfl⟩
            case rest =>
              obtain ⟨⟨n1, hn1, h1n, rfl⟩, rfl⟩ := hcut
              go_upto_if 59 with fail
              go_cut [11] (fun s11 wx => (∃ n : Nat, n ≤ 255 ∧ (64 ≤ i → 1 ≤ n) ∧ at_ + n ≤ data.size ∧ s11 = .int .i64 (n : Nat)) ∧ wr = wx)
              case first =>
                by_cases hz : data.size - at_ < n1
                · have Q1 : (data.size : Int) - (at_ : Int) < (n1 : Int) := by omega
                  go_wp2
                  go_meet
                  exact ⟨⟨data.size - at_, by omega, fun _ => by omega, by omega, int_eq (by omega)⟩, rfl⟩
                · have Q1 : ¬ (data.size : Int) - (at_ : Int) < (n1 : Int) := by omega
                  go_wp2
                  go_meet
                  exact ⟨⟨n1, hn1, h1n, by omega, rfl⟩, rfl⟩
              case rest =>
          obtain ⟨⟨n, hn, h1, har, rfl⟩, rfl⟩ := hcut
          have WR : IntKind.u8.wrap (n : Int) = (n : Int) := by rw [IntKind.wrap_u8]; omega
          have WA : IntKind.i64.wrap ((at_ : Int) + (n : Int)) = (at_ : Int) + (n : Int) := IntWalk.i64_in _ ⟨by omega, by omega⟩
          have S1 : (at_ : Int) + (n : Int) ≤ (data.size : Int) := by omega
          have S2 : (0 : Int) ≤ (at_ : Int) + (n : Int) := by omega
          have S3 : (at_ : Int) ≤ (at_ : Int) + (n : Int) := by omega
          have S4 : ((at_ : Int) + (n : Int)).toNat = at_ + n := by omega
          have S5 : ¬ 9223372036854775807 < 2 + n := by omega
          have BN := hide (fun W : World => (show ∀ (j : Nat) (b : UInt8), [code, UInt8.ofNat n][j]? = some b → (W.alloc (.cells #[.int .u8 (code.toNat : Int), .int .u8 (n : Int)] 5)).cell? ⟨W.heap.size, j, none⟩ = some (.int .u8 (b.toNat : Int)) by
            have e : (UInt8.ofNat n).toNat = n := by rw [UInt8.toNat_ofNat']; omega
            intro j b hj
            match j, hj with
            | 0, hj => simp at hj; subst hj; simp [go_sem]
            | 1, hj => simp at hj; subst hj; rw [e]; simp [go_sem]
            | j + 2, hj => simp at hj))
          have esz : (data.extract at_ (at_ + n)).size = n := by rw [ByteArray.size_extract]; omega
          have bsz : (bs [code, UInt8.ofNat n]).size = 2 := rfl
          have LY := hide (show lb (bs [code, UInt8.ofNat n] ++ data.extract at_ (at_ + n)) = code :: UInt8.ofNat n :: ((lb data).drop at_).take n by
            rw [lb_app, lb_bs]
            have := sub_list data at_ n
            unfold sub at this
            show [code, UInt8.ofNat n] ++ (data.extract at_ (at_ + n)).data.toList = _
            rw [this]; rfl)
          go_wp2_with fail
          refine wp_region_rel (HP w u7 u8 one ar) [some 64, some 65, some 66, some 67, some 68, some 69, some 70, some 71, some 72, some 73, some 74, some 75, some 12] [fun yy _ => yy = KV code, fun yy _ => yy = .int .i64 (n : Nat), fun yy _ => yy = .int .u8 (n : Int), fun yy W => ∃ g, yy = .slice (some ⟨g, 0, none⟩) 2 2 ∧ ∀ (j : Nat) (b : UInt8), [code, UInt8.ofNat n][j]? = some b → W.cell? ⟨g, j, none⟩ = some (.int .u8 (b.toNat : Int)), fun yy _ => yy = .string (bs [code, UInt8.ofNat n]), fun yy _ => yy = .string data, fun yy _ => yy = .int .i64 (at_ : Nat), fun yy _ => yy = .int .i64 (at_ : Nat), fun yy _ => yy = .int .i64 (n : Nat), fun yy _ => yy = .int .i64 ((at_ : Int) + (n : Int)), fun yy _ => yy = .string (data.extract at_ (at_ + n)), fun yy _ => yy = .string (bs [code, UInt8.ofNat n] ++ data.extract at_ (at_ + n)), fun yy _ => yy = .string (bs [code, UInt8.ofNat n] ++ data.extract at_ (at_ + n))] 121 (by kernel_rfl) (by kernel_rfl) rfl rfl (HH.out.step (Below.refl _ _).drew) ?_ ?_
          · refine ⟨⟨fun _ _ _ h _ => h, fun a' W K hC hd hf hK => ?_⟩, ⟨fun _ _ _ h _ => h, fun a' W K hC hd hf hK => ?_⟩, ⟨fun _ _ _ h _ => h, fun a' W K hC hd hf hK => ?_⟩, ⟨fun _ _ _ ⟨g, h0, h1⟩ hb => ⟨g, h0, fun j b hj => keep_cell hb (h1 j b hj)⟩, fun a' W K hC hd hf hK => ?_⟩, ⟨fun _ _ _ h _ => h, fun a' W K hC hd hf hK => ?_⟩, ⟨fun _ _ _ h _ => h, fun a' W K hC hd hf hK => ?_⟩, ⟨fun _ _ _ h _ => h, fun a' W K hC hd hf hK => ?_⟩, ⟨fun _ _ _ h _ => h, fun a' W K hC hd hf hK => ?_⟩, ⟨fun _ _ _ h _ => h, fun a' W K hC hd hf hK => ?_⟩, ⟨fun _ _ _ h _ => h, fun a' W K hC hd hf hK => ?_⟩, ⟨fun _ _ _ h _ => h, fun a' W K hC hd hf hK => ?_⟩, ⟨fun _ _ _ h _ => h, fun a' W K hC hd hf hK => ?_⟩, ⟨fun _ _ _ h _ => h, fun a' W K hC hd hf hK => ?_⟩, trivial⟩
            · refine op_plain rfl ?_
              have f0 : a'.tmps[0]?.getD undef = KV code := (hf.out 0 (by kernel_rfl)).trans (by simp)
              go_simp
              exact hK.out _ _ hC (Below.refl _ _) rfl
            · refine op_plain rfl ?_
              have f11 : a'.tmps[11]?.getD undef = .int .i64 (n : Nat) := (hf.out 11 (by kernel_rfl)).trans (by simp)
              go_simp
              exact hK.out _ _ hC (Below.refl _ _) rfl
            · refine op_plain rfl ?_
              have d65 : a'.tmps[65]?.getD undef = .int .i64 (n : Nat) := hd.out 1 65 (by kernel_rfl) rfl
              have WR := WR
              go_simp
              exact hK.out _ _ hC (Below.refl _ _) rfl
            · refine op_plain rfl ?_
              have d64 : a'.tmps[64]?.getD undef = KV code := hd.out 0 64 (by kernel_rfl) rfl
              have d66 : a'.tmps[66]?.getD undef = .int .u8 (n : Int) := hd.out 2 66 (by kernel_rfl) rfl
              go_simp
              exact hK.out _ _ (hC.step (below_alloc _ _)) (below_alloc _ _) ⟨_, rfl, BN.out W⟩
            · refine op_plain rfl ?_
              have d67 := hd.out 3 67 (by kernel_rfl) rfl
              obtain ⟨g, e3, o3⟩ := d67
              have CV := conv_at [code, UInt8.ofNat n] 2 o3
              rw [show [code, UInt8.ofNat n].length = 2 from rfl] at CV
              go_simp
              exact hK.out _ _ hC (Below.refl _ _) rfl
            · refine op_plain rfl ?_
              have f1 : a'.tmps[1]?.getD undef = .string data := (hf.out 1 (by kernel_rfl)).trans (by simp)
              go_simp
              exact hK.out _ _ hC (Below.refl _ _) rfl
            · refine op_plain rfl ?_
              have f9 : a'.tmps[9]?.getD undef = .int .i64 (at_ : Nat) := (hf.out 9 (by kernel_rfl)).trans (by simp)
              go_simp
              exact hK.out _ _ hC (Below.refl _ _) rfl
            · refine op_plain rfl ?_
              have f9 : a'.tmps[9]?.getD undef = .int .i64 (at_ : Nat) := (hf.out 9 (by kernel_rfl)).trans (by simp)
              go_simp
              exact hK.out _ _ hC (Below.refl _ _) rfl
            · refine op_plain rfl ?_
              have f11 : a'.tmps[11]?.getD undef = .int .i64 (n : Nat) := (hf.out 11 (by kernel_rfl)).trans (by simp)
              go_simp
              exact hK.out _ _ hC (Below.refl _ _) rfl
            · refine op_plain rfl ?_
              have d71 : a'.tmps[71]?.getD undef = .int .i64 (at_ : Nat) := hd.out 7 71 (by kernel_rfl) rfl
              have d72 : a'.tmps[72]?.getD undef = .int .i64 (n : Nat) := hd.out 8 72 (by kernel_rfl) rfl
              go_simp
              exact hK.out _ _ hC (Below.refl _ _) rfl
            · refine op_plain rfl ?_
              have d69 : a'.tmps[69]?.getD undef = .string data := hd.out 5 69 (by kernel_rfl) rfl
              have d70 : a'.tmps[70]?.getD undef = .int .i64 (at_ : Nat) := hd.out 6 70 (by kernel_rfl) rfl
              have d73 : a'.tmps[73]?.getD undef = .int .i64 ((at_ : Int) + (n : Int)) := hd.out 9 73 (by kernel_rfl) rfl
              go_simp
              exact hK.out _ _ hC (Below.refl _ _) rfl
            · refine op_plain rfl ?_
              have d68 : a'.tmps[68]?.getD undef = .string (bs [code, UInt8.ofNat n]) := hd.out 4 68 (by kernel_rfl) rfl
              have d74 : a'.tmps[74]?.getD undef = .string (data.extract at_ (at_ + n)) := hd.out 10 74 (by kernel_rfl) rfl
              go_simp
              exact hK.out _ _ hC (Below.refl _ _) rfl
            · refine op_plain rfl ?_
              have d75 : a'.tmps[75]?.getD undef = .string (bs [code, UInt8.ofNat n] ++ data.extract at_ (at_ + n)) := hd.out 11 75 (by kernel_rfl) rfl
              go_simp
              exact hK.out _ _ hC (Below.refl _ _) rfl
          · intro vs W5 H5 hR
            have q0 : vs 0 = KV code := hR.out 0 (by decide)
            have q1 : vs 1 = .int .i64 (n : Nat) := hR.out 1 (by decide)
            have q2 : vs 2 = .int .u8 (n : Int) := hR.out 2 (by decide)
            have r3 := hR.out 3 (by decide)
            generalize hq3 : vs 3 = q3 at *
            change (fun yy W => ∃ g, yy = .slice (some ⟨g, 0, none⟩) 2 2 ∧ ∀ (j : Nat) (b : UInt8), [code, UInt8.ofNat n][j]? = some b → W.cell? ⟨g, j, none⟩ = some (.int .u8 (b.toNat : Int))) q3 W5 at r3
            have q4 : vs 4 = .string (bs [code, UInt8.ofNat n]) := hR.out 4 (by decide)
            have q5 : vs 5 = .string data := hR.out 5 (by decide)
            have q6 : vs 6 = .int .i64 (at_ : Nat) := hR.out 6 (by decide)
            have q7 : vs 7 = .int .i64 (at_ : Nat) := hR.out 7 (by decide)
            have q8 : vs 8 = .int .i64 (n : Nat) := hR.out 8 (by decide)
            have q9 : vs 9 = .int .i64 ((at_ : Int) + (n : Int)) := hR.out 9 (by decide)
            have q10 : vs 10 = .string (data.extract at_ (at_ + n)) := hR.out 10 (by decide)
            have q11 : vs 11 = .string (bs [code, UInt8.ofNat n] ++ data.extract at_ (at_ + n)) := hR.out 11 (by decide)
            have q12 : vs 12 = .string (bs [code, UInt8.ofNat n] ++ data.extract at_ (at_ + n)) := hR.out 12 (by decide)
            simp only [fillF, Act.put, List.setIfInBounds_toArray, List.set_cons_zero, List.set_cons_succ, Nat.reduceAdd, q0, q1, q2, hq3, q4, q5, q6, q7, q8, q9, q10, q11, q12]
            clear hR q0 q1 q2 hq3 q4 q5 q6 q7 q8 q9 q10 q11 q12
            clear r3
            clear WR WA S1 S2 S3 S4 S5 BN bsz esz
            have PI2 := hide (fun y (hy : lb y = code :: UInt8.ofNat n :: ((lb data).drop at_).take n) => pinv_step PI.out hlb.out C255.out C0.out hn (by rw [lb_len]; exact har) y hy)
            have P2L := hide (fun y (hy : lb y = code :: UInt8.ofNat n :: ((lb data).drop at_).take n) => (show y.size = n + 2 by rw [← lb_len, hy]; simp only [List.length_cons, List.length_take, List.length_drop, lb_len]; omega))
            generalize bs [code, UInt8.ofNat n] ++ data.extract at_ (at_ + n) = y at *
            have PI3 := hide (PI2.out y LY.out)
            have ysz := P2L.out y LY.out
            have k4 := PI.out.2.2.2.1
            have k5 := PI.out.2.2.2.2.1
            have KK := hide (And.intro k4 k5)
            have B1 : one.length + y.size ≤ 140737488355328 := by omega
            have B2 : (ar.length + 1) * 16 ≤ 140737488355328 := by omega
            have H6 := hide H5
            clear H5 PI2 P2L PI ysz k4 k5
            go_wp2_with (at_builtin; first
              | (refine wpList_append_B rfl (.tmp 76) (.tmp 77) rfl w.heap.size _ one rfl H6.out.2.1 y rfl B1 H6.out.1.size ?_; intro v3 w3 q1 q2 q3; have F3 := hide ((fin_all H6.out q2 q1).step (below_alloc w3 (.cells #[.string y] 9))); clear q1 q2 q3)
              | (refine wpList_append_str rfl (.tmp 79) (.tmp 81) rfl w.heap.size _ ar rfl F3.out.2.2 w3.heap.size 1 y rfl (cell_one_new _ _ _) B2 F3.out.1.size ?_; intro v4 w4 q4 q5; have F4 := hide (fin_str F3.out q5 q4); clear q4 q5))
            go_roundw
            case rel => exact ⟨i + 1, at_ + n, one ++ lb y, ar ++ [y], int_eq (by omega), int_eq (by omega), har, by omega, F4.out, PI3, fun _ => by omega⟩
            case measure => simp [intOf]; omega
        · have hend : at_ = data.size := by omega
          have k4 := PI.out.2.2.2.1
          have k5 := PI.out.2.2.2.2.1
          have KS := hide PI.out.2.2.2.2.2
          have PE := hide (pinv_end PI.out)
          have PZ := hide PI.out.2.2.1
          have HH := hide HH0
          have CV := conv_B HH.out.2.1
          have on_le : one.length ≤ 1048576 := by omega
          have ar_le : ar.length ≤ 1048576 := by omega
          have PO := hide (fun W V (hV : V = W.alloc (.cells #[.string (bs one)] 9)) => parse_one W V (bs one) hV (by rw [bs_size]; omega))
          have PM := hide (fun W (H : LstS u8 ar W) => parse_any (by omega) (fun s hs => Nat.le_trans (KS.out s hs) (by omega)) W H)
          generalize bs one = ob at *
          clear HH0 PI k4 k5
          go_wp2_with fail
          refine (PO.out _ _ rfl).mono ?_
          rintro e w2 ⟨v2, rfl, hb2, ho2⟩
          have B2 := hide (chain HH.out.1 (chain (below_alloc _ _) hb2))
          have AS := hide ((ownS_lst HH.out.2.2).step (chain (below_alloc _ _) hb2))
          rw [PE.out.2.1] at ho2
          rw [PE.out.1.1]
          have HO2 := hide (ownO_lst ho2)
          clear hb2 ho2 CV
          go_wp2_with fail
          refine (PM.out w2 AS.out).mono ?_
          rintro e w3 ⟨v3, rfl, hb3, ho3⟩
          have B3 := hide (chain B2.out hb3)
          rw [PE.out.2.2] at ho3
          rw [PE.out.1.2]
          have HO3 := hide (ownO_lst ho3)
          have HO23 := hide (HO2.out.step hb3)
          have LG : (optsOf (gsAt code (lb data) i at_)).length ≤ 1 := by unfold optsOf gsAt; rw [List.length_map]; split <;> simp
          have SA := hide (same_any (l := optsOf (gsAt code (lb data) i at_)) (m := optsOf (gsAt code (lb data) i at_)) (by omega) w3 HO23.out HO3.out)
          rw [decide_eq_true rfl] at SA
          clear hb3 ho3
          go_wp2_with fail
          refine SA.out.mono ?_
          rintro e w4 ⟨rfl, hb4⟩
          have B4 := hide (chain B3.out hb4)
          have HO4 := HO23.out.step hb4
          clear hb4 SA
          by_cases hz : data.size = 0
          · have hi0 : i = 0 := by omega
            have E0 : optsOf (gsAt code (lb data) i at_) = [] := by unfold gsAt; rw [if_pos hi0]; rfl
            rw [E0] at HO4
            obtain ⟨p4, c4, rfl⟩ := lstO_len HO4
            have DZ : data = ByteArray.empty := by
              have : lb data = lb ByteArray.empty := List.length_eq_zero_iff.1 (by rw [lb_len]; exact hz)
              exact lb_inj this
            subst DZ
            clear HO4 E0
            go_wp2
            go_ret
            exact ⟨rfl, B4.out⟩
          · have E1 : optsOf (gsAt code (lb data) i at_) = [(code, data)] := by
              have hi1 : i ≠ 0 := fun e => by have := PZ.out e; omega
              unfold gsAt
              rw [if_neg hi1, hend, List.take_of_length_le (by rw [lb_len]; exact Nat.le_refl _)]
              unfold optsOf
              rw [List.map_cons, List.map_nil, bs_lb]
            rw [E1] at HO4
            have HO5 := hide HO4
            have SB := hide (fun V (hV : V = w4.alloc (.cells #[.int .u8 (code.toNat : Int), .string data] 42)) => (show Calls Try.prog 11 #[v2, .slice (some ⟨w4.heap.size, 0, none⟩) 1 1] V (Gives (.bool true) V) by
              have hl := lstO_new w4 [(code, data)] #[.int .u8 (code.toNat : Int), .string data] 42 rfl (by simp)
              have h2 := HO5.out.step (below_alloc w4 (.cells #[.int .u8 (code.toNat : Int), .string data] 42))
              rw [← hV] at hl h2
              have h := same_any (l := [(code, data)]) (m := [(code, data)]) (by simp) V h2 hl
              rw [decide_eq_true rfl] at h
              exact h))
            have NZ : (data.toList == []) = false := beq_eq_false_iff_ne.2 (fun e => hz (by
              have : lb data = [] := by rw [ByteArray.toList_eq] at e; exact e
              rw [← lb_len, this]; rfl))
            clear HO4 E1
            go_wp2_with fail
            refine (SB.out _ rfl).mono ?_
            rintro e w5 ⟨rfl, hb5⟩
            have B5 := hide (chain B4.out (chain (below_alloc _ _) hb5))
            clear hb5
            go_wp2
            go_ret
            exact ⟨rfl, B5.out⟩
end Go.Proofs.Ytmidnkfgbdiamaa
