/-
  The document's own Decode, 1. No condition beyond those in each theorem's own statement.
-/
import Derived.Test.YtmoklodaeicpgaaWDc0
import Derived.Test.YtmoklodaeicpgaaRgT
namespace Go.Proofs.Ytmoklodaeicpgaa
open Go.RowKit Go.Joins

set_option maxRecDepth 100000 in
set_option maxHeartbeats 8000000 in
theorem rdec_err (s : ByteArray) (h1 : 240 ≤ s.size) (h2 : s.size ≤ 65507) (h3 : sub s 236 4 = bs cookieL) (hp : parseE [(lb s).drop 240] ≠ 0) (w : World) : Calls Try.prog 17 #[.string s] w (DecP s w) := by
  have R0 := hide (box_new w zeroH (.slice none 0 0))
  have D0 := hide (below_alloc w (.cells (cellsM zeroH (.slice none 0 0)) 26))
  have Q1 : ¬ (65507 : Int) < (s.size : Int) := by omega
  have Q2 : ¬ (s.size : Int) < 240 := by omega
  have CK : ((s.extract 236 240).toList == [99, 130, 83, 99]) = true := str_eq (d := s.extract 236 240) (l := [99, 130, 83, 99]) h3
  have RW := hide (fun a (ha : a ≤ 1000) W => rword_any s h2 a ha W)
  have SL := hide (sub_rest s)
  have SZ := hide (getH_siz s h1)
  have DR := hide (show decR s = (parseE [(lb s).drop 240], zeroH, []) by rw [dec_go h1 h2 h3, if_pos hp])
  have i0 : 0 < s.size := by omega
  have i1 : 1 < s.size := by omega
  have i2 : 2 < s.size := by omega
  have i3 : 3 < s.size := by omega
  have i8 : 8 < s.size := by omega
  have i9 : 9 < s.size := by omega
  have i10 : 10 < s.size := by omega
  have i11 : 11 < s.size := by omega
  have j1 : (1 : Int) < (s.size : Int) := by omega
  have j2 : (2 : Int) < (s.size : Int) := by omega
  have j3 : (3 : Int) < (s.size : Int) := by omega
  have j8 : (8 : Int) < (s.size : Int) := by omega
  have j9 : (9 : Int) < (s.size : Int) := by omega
  have j10 : (10 : Int) < (s.size : Int) := by omega
  have j11 : (11 : Int) < (s.size : Int) := by omega
  have j44 : (44 : Int) ≤ (s.size : Int) := by omega
  have j108 : (108 : Int) ≤ (s.size : Int) := by omega
  have j236 : (236 : Int) ≤ (s.size : Int) := by omega
  have e0 : s[0] = (getH s).op := byte_at s 0 i0
  have e1 : s[1] = (getH s).ht := byte_at s 1 i1
  have e2 : s[2] = (getH s).hl := byte_at s 2 i2
  have e3 : s[3] = (getH s).ho := byte_at s 3 i3
  have g8 := two_at s 8 (by omega)
  have g10 := two_at s 10 (by omega)
  rw [← byte_at s 8 i8, ← byte_at s (8 + 1) i9] at g8
  rw [← byte_at s 10 i10, ← byte_at s (10 + 1) i11] at g10
  have s8 : ((getH s).secs.toNat : Int) = ((s[8].toNat : Nat) : Int) * 256 + ((s[9].toNat : Nat) : Int) := by
    show ((UInt16.ofNat (getV 2 s 8)).toNat : Int) = _
    rw [u16_of _ (getV_lt 2 s 8)]
    have : getV 2 s 8 = s[8].toNat * 256 + s[9].toNat := g8
    omega
  have s10 : ((getH s).flags.toNat : Int) = ((s[10].toNat : Nat) : Int) * 256 + ((s[11].toNat : Nat) : Int) := by
    show ((UInt16.ofNat (getV 2 s 10)).toNat : Int) = _
    rw [u16_of _ (getV_lt 2 s 10)]
    have : getV 2 s 10 = s[10].toNat * 256 + s[11].toNat := g10
    omega
  obtain ⟨B8, e8⟩ : ∃ B, s[8] = B := ⟨_, rfl⟩
  obtain ⟨B9, e9⟩ : ∃ B, s[9] = B := ⟨_, rfl⟩
  obtain ⟨B10, e10⟩ : ∃ B, s[10] = B := ⟨_, rfl⟩
  obtain ⟨B11, e11⟩ : ∃ B, s[11] = B := ⟨_, rfl⟩
  rw [e8, e9] at s8
  rw [e10, e11] at s10
  have b8 := B8.toNat_lt
  have b9 := B9.toNat_lt
  have b10 := B10.toNat_lt
  have b11 := B11.toNat_lt
  have U8 : IntKind.u16.wrap (B8.toNat : Int) = (B8.toNat : Int) := by simp [IntKind.wrap, IntKind.signed, IntKind.bits]; omega
  have U9 : IntKind.u16.wrap (B9.toNat : Int) = (B9.toNat : Int) := by simp [IntKind.wrap, IntKind.signed, IntKind.bits]; omega
  have U10 : IntKind.u16.wrap (B10.toNat : Int) = (B10.toNat : Int) := by simp [IntKind.wrap, IntKind.signed, IntKind.bits]; omega
  have U11 : IntKind.u16.wrap (B11.toNat : Int) = (B11.toNat : Int) := by simp [IntKind.wrap, IntKind.signed, IntKind.bits]; omega
  have V8 : IntKind.u16.wrap ((B8.toNat : Int) * 256) = (B8.toNat : Int) * 256 := by simp [IntKind.wrap, IntKind.signed, IntKind.bits]; omega
  have V10 : IntKind.u16.wrap ((B10.toNat : Int) * 256) = (B10.toNat : Int) * 256 := by simp [IntKind.wrap, IntKind.signed, IntKind.bits]; omega
  have V9 : IntKind.u16.wrap ((B8.toNat : Int) * 256 + (B9.toNat : Int)) = ((getH s).secs.toNat : Int) := by rw [s8]; simp [IntKind.wrap, IntKind.signed, IntKind.bits]; omega
  have V11 : IntKind.u16.wrap ((B10.toNat : Int) * 256 + (B11.toNat : Int)) = ((getH s).flags.toNat : Int) := by rw [s10]; simp [IntKind.wrap, IntKind.signed, IntKind.bits]; omega
  clear g8 g10 s8 s10
  go_enter Try.func17, Try.ntmps17
  go_wp2_with fail
  generalize hW0 : w.alloc (.cells #[.int .u8 0, .int .u8 0, .int .u8 0, .int .u8 0, .int .u32 0, .int .u16 0, .int .u16 0, .int .u32 0, .int .u32 0, .int .u32 0, .int .u32 0, .string ⟨#[]⟩, .string ⟨#[]⟩, .string ⟨#[]⟩, .slice none 0 0] 26) = W0 at *
  have HD0 := hide (show RD w w.heap.size W0 by rw [← hW0]; exact ⟨below_alloc _ _, box_new w zeroH (.slice none 0 0), Nat.le_refl _⟩)
  have j240 : (240 : Int) ≤ (s.size : Int) := by omega
  clear hW0 R0 D0 CK Q1 Q2
  have X4 := hide (fun W => (show Calls Try.prog 33 #[.string s, .int .i64 4] W (Same (.int .u32 ((getH s).xid.toNat : Int)) W) from rword_any s h2 4 (by omega) W))
  have X7 := hide (fun W => (show Calls Try.prog 33 #[.string s, .int .i64 12] W (Same (.int .u32 ((getH s).ci.toNat : Int)) W) from rword_any s h2 12 (by omega) W))
  have X8 := hide (fun W => (show Calls Try.prog 33 #[.string s, .int .i64 16] W (Same (.int .u32 ((getH s).yi.toNat : Int)) W) from rword_any s h2 16 (by omega) W))
  have X9 := hide (fun W => (show Calls Try.prog 33 #[.string s, .int .i64 20] W (Same (.int .u32 ((getH s).si.toNat : Int)) W) from rword_any s h2 20 (by omega) W))
  have X10 := hide (fun W => (show Calls Try.prog 33 #[.string s, .int .i64 24] W (Same (.int .u32 ((getH s).gi.toNat : Int)) W) from rword_any s h2 24 (by omega) W))
  clear RW
  generalize hH : getH s = H at *
  have HH := hide hH
  have HP := hide (show H.hard = s.extract 28 44 ∧ H.name = s.extract 44 108 ∧ H.file = s.extract 108 236 by rw [← hH]; exact ⟨rfl, rfl, rfl⟩)
  clear hH
  refine wp_region_relT 16 1 (RD w w.heap.size) [some 22, some 23, some 24, some 25, some 26, some 27, some 28, some 29, some 30, some 31, some 32, some 33, some 34, some 35, some 36, some 4] [fun yy _ => yy = .string s, fun yy _ => yy = .int .u8 (H.op.toNat : Int), fun yy _ => yy = .string s, fun yy _ => yy = .int .u8 (H.ht.toNat : Int), fun yy _ => yy = .string s, fun yy _ => yy = .int .u8 (H.hl.toNat : Int), fun yy _ => yy = .string s, fun yy _ => yy = .int .u8 (H.ho.toNat : Int), fun yy _ => yy = .string s, fun yy _ => yy = .string (s.extract 28 44), fun yy _ => yy = .string s, fun yy _ => yy = .string (s.extract 44 108), fun yy _ => yy = .string s, fun yy _ => yy = .string (s.extract 108 236), fun yy _ => yy = MV ⟨H.op, H.ht, H.hl, H.ho, 0, 0, 0, 0, 0, 0, 0, s.extract 28 44, s.extract 44 108, s.extract 108 236⟩ (.slice none 0 0), fun yy W => ∃ b, yy = .pointer (some ⟨b, 0, none⟩) ∧ w.heap.size < b ∧ BoxM b zeroH (.slice none 0 0) W] 144 (by kernel_rfl) rfl (by omega) (by kernel_rfl) (by kernel_rfl) rfl rfl (HD0.out.step (below_drew _)) ?_ ?_
  · refine ⟨⟨fun _ _ _ h _ => h, fun a' W K hC hd hf hK => ?_⟩, ⟨fun _ _ _ h _ => h, fun a' W K hC hd hf hK => ?_⟩, ⟨fun _ _ _ h _ => h, fun a' W K hC hd hf hK => ?_⟩, ⟨fun _ _ _ h _ => h, fun a' W K hC hd hf hK => ?_⟩, ⟨fun _ _ _ h _ => h, fun a' W K hC hd hf hK => ?_⟩, ⟨fun _ _ _ h _ => h, fun a' W K hC hd hf hK => ?_⟩, ⟨fun _ _ _ h _ => h, fun a' W K hC hd hf hK => ?_⟩, ⟨fun _ _ _ h _ => h, fun a' W K hC hd hf hK => ?_⟩, ⟨fun _ _ _ h _ => h, fun a' W K hC hd hf hK => ?_⟩, ⟨fun _ _ _ h _ => h, fun a' W K hC hd hf hK => ?_⟩, ⟨fun _ _ _ h _ => h, fun a' W K hC hd hf hK => ?_⟩, ⟨fun _ _ _ h _ => h, fun a' W K hC hd hf hK => ?_⟩, ⟨fun _ _ _ h _ => h, fun a' W K hC hd hf hK => ?_⟩, ⟨fun _ _ _ h _ => h, fun a' W K hC hd hf hK => ?_⟩, ⟨fun _ _ _ h _ => h, fun a' W K hC hd hf hK => ?_⟩, ⟨fun _ _ _ ⟨b, h0, h1, h2⟩ hb => ⟨b, h0, h1, h2.step hb⟩, fun a' W K hC hd hf hK => ?_⟩, trivial⟩
    · refine op_plain rfl ?_
      have f0 : a'.tmps[0]?.getD undef = .string s := (hf.out 0 (by kernel_rfl)).trans (by simp)
      go_simp
      exact hK.out _ _ hC (Below.refl _ _) rfl
    · refine op_plain rfl ?_
      have d22 : a'.tmps[22]?.getD undef = .string s := hd.out 0 22 (by kernel_rfl) rfl
      go_simp
      exact hK.out _ _ hC (Below.refl _ _) rfl
    · refine op_plain rfl ?_
      have f0 : a'.tmps[0]?.getD undef = .string s := (hf.out 0 (by kernel_rfl)).trans (by simp)
      go_simp
      exact hK.out _ _ hC (Below.refl _ _) rfl
    · refine op_plain rfl ?_
      have d24 : a'.tmps[24]?.getD undef = .string s := hd.out 2 24 (by kernel_rfl) rfl
      go_simp
      exact hK.out _ _ hC (Below.refl _ _) rfl
    · refine op_plain rfl ?_
      have f0 : a'.tmps[0]?.getD undef = .string s := (hf.out 0 (by kernel_rfl)).trans (by simp)
      go_simp
      exact hK.out _ _ hC (Below.refl _ _) rfl
    · refine op_plain rfl ?_
      have d26 : a'.tmps[26]?.getD undef = .string s := hd.out 4 26 (by kernel_rfl) rfl
      go_simp
      exact hK.out _ _ hC (Below.refl _ _) rfl
    · refine op_plain rfl ?_
      have f0 : a'.tmps[0]?.getD undef = .string s := (hf.out 0 (by kernel_rfl)).trans (by simp)
      go_simp
      exact hK.out _ _ hC (Below.refl _ _) rfl
    · refine op_plain rfl ?_
      have d28 : a'.tmps[28]?.getD undef = .string s := hd.out 6 28 (by kernel_rfl) rfl
      go_simp
      exact hK.out _ _ hC (Below.refl _ _) rfl
    · refine op_plain rfl ?_
      have f0 : a'.tmps[0]?.getD undef = .string s := (hf.out 0 (by kernel_rfl)).trans (by simp)
      go_simp
      exact hK.out _ _ hC (Below.refl _ _) rfl
    · refine op_plain rfl ?_
      have d30 : a'.tmps[30]?.getD undef = .string s := hd.out 8 30 (by kernel_rfl) rfl
      go_simp
      exact hK.out _ _ hC (Below.refl _ _) rfl
    · refine op_plain rfl ?_
      have f0 : a'.tmps[0]?.getD undef = .string s := (hf.out 0 (by kernel_rfl)).trans (by simp)
      go_simp
      exact hK.out _ _ hC (Below.refl _ _) rfl
    · refine op_plain rfl ?_
      have d32 : a'.tmps[32]?.getD undef = .string s := hd.out 10 32 (by kernel_rfl) rfl
      go_simp
      exact hK.out _ _ hC (Below.refl _ _) rfl
    · refine op_plain rfl ?_
      have f0 : a'.tmps[0]?.getD undef = .string s := (hf.out 0 (by kernel_rfl)).trans (by simp)
      go_simp
      exact hK.out _ _ hC (Below.refl _ _) rfl
    · refine op_plain rfl ?_
      have d34 : a'.tmps[34]?.getD undef = .string s := hd.out 12 34 (by kernel_rfl) rfl
      go_simp
      exact hK.out _ _ hC (Below.refl _ _) rfl
    · refine op_plain rfl ?_
      have d23 : a'.tmps[23]?.getD undef = .int .u8 (H.op.toNat : Int) := hd.out 1 23 (by kernel_rfl) rfl
      have d25 : a'.tmps[25]?.getD undef = .int .u8 (H.ht.toNat : Int) := hd.out 3 25 (by kernel_rfl) rfl
      have d27 : a'.tmps[27]?.getD undef = .int .u8 (H.hl.toNat : Int) := hd.out 5 27 (by kernel_rfl) rfl
      have d29 : a'.tmps[29]?.getD undef = .int .u8 (H.ho.toNat : Int) := hd.out 7 29 (by kernel_rfl) rfl
      have d31 : a'.tmps[31]?.getD undef = .string (s.extract 28 44) := hd.out 9 31 (by kernel_rfl) rfl
      have d33 : a'.tmps[33]?.getD undef = .string (s.extract 44 108) := hd.out 11 33 (by kernel_rfl) rfl
      have d35 : a'.tmps[35]?.getD undef = .string (s.extract 108 236) := hd.out 13 35 (by kernel_rfl) rfl
      go_simp
      exact hK.out _ _ hC (Below.refl _ _) rfl
    · refine op_plain rfl ?_
      go_simp
      exact hK.out _ _ (hC.step (below_alloc W _)) (below_alloc W _) ⟨_, rfl, lt_of_block hC.2.1, box_new W zeroH _⟩
  · intro vs W5 H5 hR
    have q0 : vs 0 = .string s := hR.out 0 (by decide)
    have q1 : vs 1 = .int .u8 (H.op.toNat : Int) := hR.out 1 (by decide)
    have q2 : vs 2 = .string s := hR.out 2 (by decide)
    have q3 : vs 3 = .int .u8 (H.ht.toNat : Int) := hR.out 3 (by decide)
    have q4 : vs 4 = .string s := hR.out 4 (by decide)
    have q5 : vs 5 = .int .u8 (H.hl.toNat : Int) := hR.out 5 (by decide)
    have q6 : vs 6 = .string s := hR.out 6 (by decide)
    have q7 : vs 7 = .int .u8 (H.ho.toNat : Int) := hR.out 7 (by decide)
    have q8 : vs 8 = .string s := hR.out 8 (by decide)
    have q9 : vs 9 = .string (s.extract 28 44) := hR.out 9 (by decide)
    have q10 : vs 10 = .string s := hR.out 10 (by decide)
    have q11 : vs 11 = .string (s.extract 44 108) := hR.out 11 (by decide)
    have q12 : vs 12 = .string s := hR.out 12 (by decide)
    have q13 : vs 13 = .string (s.extract 108 236) := hR.out 13 (by decide)
    have q14 : vs 14 = MV ⟨H.op, H.ht, H.hl, H.ho, 0, 0, 0, 0, 0, 0, 0, s.extract 28 44, s.extract 44 108, s.extract 108 236⟩ (.slice none 0 0) := hR.out 14 (by decide)
    have r15 := hR.out 15 (by decide)
    generalize hq15 : vs 15 = q15 at *
    change (fun yy W => ∃ b, yy = .pointer (some ⟨b, 0, none⟩) ∧ w.heap.size < b ∧ BoxM b zeroH (.slice none 0 0) W) q15 W5 at r15
    simp only [List.drop_succ_cons, List.drop_zero, fillF, Act.put, List.setIfInBounds_toArray, List.set_cons_zero, List.set_cons_succ, Nat.reduceAdd, q0, q1, q2, q3, q4, q5, q6, q7, q8, q9, q10, q11, q12, q13, q14, hq15]
    clear hR q0 q1 q2 q3 q4 q5 q6 q7 q8 q9 q10 q11 q12 q13 q14 hq15
    obtain ⟨b, rfl, hb, gb⟩ := r15
    have HM := hide (show w.heap.size < b ∧ RD w w.heap.size W5 ∧ BoxM b zeroH (.slice none 0 0) W5 from ⟨hb, H5, gb⟩)
    clear hb gb e0 e1 e2 e3 i0 i1 i2 i3 j1 j2 j3 j44 j108 j236
    go_wp2_with (refine wpList_store_box rfl (.tmp 4) (.tmp 36) rfl b _ ⟨H.op, H.ht, H.hl, H.ho, 0, 0, 0, 0, 0, 0, 0, s.extract 28 44, s.extract 44 108, s.extract 108 236⟩ _ (.slice none 0 0) rfl rfl rfl HM.out.2.2 ?_; intro w2 g2 b2 z2; have M2 := hide (show RM w w.heap.size b ⟨H.op, H.ht, H.hl, H.ho, 0, 0, 0, 0, 0, 0, 0, s.extract 28 44, s.extract 44 108, s.extract 108 236⟩ w2 from ⟨⟨HM.out.2.1.1.trans (b2 _ (Nat.le_of_lt HM.out.1)), (z2 _ (Nat.ne_of_lt HM.out.1)).trans HM.out.2.1.2.1, Nat.le_refl _⟩, g2, HM.out.1⟩); clear g2 b2 z2 HM)
    refine (X4.out w2).mono ?_
    rintro e _ ⟨rfl, rfl⟩
    have c4 : w2.cell? ⟨b, 4, none⟩ = some (.int .u32 0) := (M2.out.cell (k := 4) rfl).1
    have f4 := (M2.out.cell (k := 4) rfl).2
    have M3 := hide (show RM w w.heap.size b ⟨H.op, H.ht, H.hl, H.ho, H.xid, 0, 0, 0, 0, 0, 0, s.extract 28 44, s.extract 44 108, s.extract 108 236⟩ (w2.setCell ⟨b, 4, none⟩ (.int .u32 (H.xid.toNat : Int))) from M2.out.put (k := 4) (by decide) (.u32 H.xid) rfl)
    go_wp2_with fail
    generalize w2.setCell ⟨b, 4, none⟩ (.int .u32 (H.xid.toNat : Int)) = w3 at *
    clear c4 f4 M2 X4
    refine wp_region_relT 9 1 (RM w w.heap.size b ⟨H.op, H.ht, H.hl, H.ho, H.xid, 0, 0, 0, 0, 0, 0, s.extract 28 44, s.extract 44 108, s.extract 108 236⟩) [some 40, some 41, some 42, some 43, some 44, some 45, some 46, some 47, some 48] [fun yy _ => yy = .string s, fun yy _ => yy = .int .u8 (B8.toNat : Int), fun yy _ => yy = .int .u16 (B8.toNat : Int), fun yy _ => yy = .int .u16 ((B8.toNat : Int) * 256), fun yy _ => yy = .string s, fun yy _ => yy = .int .u8 (B9.toNat : Int), fun yy _ => yy = .int .u16 (B9.toNat : Int), fun yy _ => yy = .int .u16 (H.secs.toNat : Int), fun yy _ => yy = .pointer (some ⟨b, 5, none⟩)] 144 (by kernel_rfl) rfl (by omega) (by kernel_rfl) (by kernel_rfl) rfl rfl (M3.out.step (below_drew _)) ?_ ?_
    · refine ⟨⟨fun _ _ _ h _ => h, fun a' W K hC hd hf hK => ?_⟩, ⟨fun _ _ _ h _ => h, fun a' W K hC hd hf hK => ?_⟩, ⟨fun _ _ _ h _ => h, fun a' W K hC hd hf hK => ?_⟩, ⟨fun _ _ _ h _ => h, fun a' W K hC hd hf hK => ?_⟩, ⟨fun _ _ _ h _ => h, fun a' W K hC hd hf hK => ?_⟩, ⟨fun _ _ _ h _ => h, fun a' W K hC hd hf hK => ?_⟩, ⟨fun _ _ _ h _ => h, fun a' W K hC hd hf hK => ?_⟩, ⟨fun _ _ _ h _ => h, fun a' W K hC hd hf hK => ?_⟩, ⟨fun _ _ _ h _ => h, fun a' W K hC hd hf hK => ?_⟩, trivial⟩
      · refine op_plain rfl ?_
        have f0 : a'.tmps[0]?.getD undef = .string s := (hf.out 0 (by kernel_rfl)).trans (by simp)
        go_simp
        exact hK.out _ _ hC (Below.refl _ _) rfl
      · refine op_plain rfl ?_
        have d40 : a'.tmps[40]?.getD undef = .string s := hd.out 0 40 (by kernel_rfl) rfl
        go_simp
        exact hK.out _ _ hC (Below.refl _ _) rfl
      · refine op_plain rfl ?_
        have d41 : a'.tmps[41]?.getD undef = .int .u8 (B8.toNat : Int) := hd.out 1 41 (by kernel_rfl) rfl
        go_simp
        exact hK.out _ _ hC (Below.refl _ _) rfl
      · refine op_plain rfl ?_
        have d42 : a'.tmps[42]?.getD undef = .int .u16 (B8.toNat : Int) := hd.out 2 42 (by kernel_rfl) rfl
        go_simp
        exact hK.out _ _ hC (Below.refl _ _) rfl
      · refine op_plain rfl ?_
        have f0 : a'.tmps[0]?.getD undef = .string s := (hf.out 0 (by kernel_rfl)).trans (by simp)
        go_simp
        exact hK.out _ _ hC (Below.refl _ _) rfl
      · refine op_plain rfl ?_
        have d44 : a'.tmps[44]?.getD undef = .string s := hd.out 4 44 (by kernel_rfl) rfl
        go_simp
        exact hK.out _ _ hC (Below.refl _ _) rfl
      · refine op_plain rfl ?_
        have d45 : a'.tmps[45]?.getD undef = .int .u8 (B9.toNat : Int) := hd.out 5 45 (by kernel_rfl) rfl
        go_simp
        exact hK.out _ _ hC (Below.refl _ _) rfl
      · refine op_plain rfl ?_
        have d43 : a'.tmps[43]?.getD undef = .int .u16 ((B8.toNat : Int) * 256) := hd.out 3 43 (by kernel_rfl) rfl
        have d46 : a'.tmps[46]?.getD undef = .int .u16 (B9.toNat : Int) := hd.out 6 46 (by kernel_rfl) rfl
        go_simp
        exact hK.out _ _ hC (Below.refl _ _) rfl
      · refine op_plain rfl ?_
        have f4 : a'.tmps[4]?.getD undef = .pointer (some ⟨b, 0, none⟩) := (hf.out 4 (by kernel_rfl)).trans (by simp)
        go_simp
        exact hK.out _ _ hC (Below.refl _ _) rfl
    · intro vs w4 M4 hR
      have q0 : vs 0 = .string s := hR.out 0 (by decide)
      have q1 : vs 1 = .int .u8 (B8.toNat : Int) := hR.out 1 (by decide)
      have q2 : vs 2 = .int .u16 (B8.toNat : Int) := hR.out 2 (by decide)
      have q3 : vs 3 = .int .u16 ((B8.toNat : Int) * 256) := hR.out 3 (by decide)
      have q4 : vs 4 = .string s := hR.out 4 (by decide)
      have q5 : vs 5 = .int .u8 (B9.toNat : Int) := hR.out 5 (by decide)
      have q6 : vs 6 = .int .u16 (B9.toNat : Int) := hR.out 6 (by decide)
      have q7 : vs 7 = .int .u16 (H.secs.toNat : Int) := hR.out 7 (by decide)
      have q8 : vs 8 = .pointer (some ⟨b, 5, none⟩) := hR.out 8 (by decide)
      simp only [List.drop_succ_cons, List.drop_zero, fillF, Act.put, List.setIfInBounds_toArray, List.set_cons_zero, List.set_cons_succ, Nat.reduceAdd, q0, q1, q2, q3, q4, q5, q6, q7, q8]
      clear hR q0 q1 q2 q3 q4 q5 q6 q7 q8
      have c5 : w4.cell? ⟨b, 5, none⟩ = some (.int .u16 0) := (M4.cell (k := 5) rfl).1
      have f5 := (M4.cell (k := 5) rfl).2
      have M5 := hide (show RM w w.heap.size b ⟨H.op, H.ht, H.hl, H.ho, H.xid, H.secs, 0, 0, 0, 0, 0, s.extract 28 44, s.extract 44 108, s.extract 108 236⟩ (w4.setCell ⟨b, 5, none⟩ (.int .u16 (H.secs.toNat : Int))) from M4.put (k := 5) (by decide) (.u16 H.secs) rfl)
      go_wp2_with fail
      generalize w4.setCell ⟨b, 5, none⟩ (.int .u16 (H.secs.toNat : Int)) = w5 at *
      clear c5 f5 M4
      refine wp_region_relT 9 1 (RM w w.heap.size b ⟨H.op, H.ht, H.hl, H.ho, H.xid, H.secs, 0, 0, 0, 0, 0, s.extract 28 44, s.extract 44 108, s.extract 108 236⟩) [some 49, some 50, some 51, some 52, some 53, some 54, some 55, some 56, some 57] [fun yy _ => yy = .string s, fun yy _ => yy = .int .u8 (B10.toNat : Int), fun yy _ => yy = .int .u16 (B10.toNat : Int), fun yy _ => yy = .int .u16 ((B10.toNat : Int) * 256), fun yy _ => yy = .string s, fun yy _ => yy = .int .u8 (B11.toNat : Int), fun yy _ => yy = .int .u16 (B11.toNat : Int), fun yy _ => yy = .int .u16 (H.flags.toNat : Int), fun yy _ => yy = .pointer (some ⟨b, 6, none⟩)] 144 (by kernel_rfl) rfl (by omega) (by kernel_rfl) (by kernel_rfl) rfl rfl (M5.out.step (below_drew _)) ?_ ?_
      · refine ⟨⟨fun _ _ _ h _ => h, fun a' W K hC hd hf hK => ?_⟩, ⟨fun _ _ _ h _ => h, fun a' W K hC hd hf hK => ?_⟩, ⟨fun _ _ _ h _ => h, fun a' W K hC hd hf hK => ?_⟩, ⟨fun _ _ _ h _ => h, fun a' W K hC hd hf hK => ?_⟩, ⟨fun _ _ _ h _ => h, fun a' W K hC hd hf hK => ?_⟩, ⟨fun _ _ _ h _ => h, fun a' W K hC hd hf hK => ?_⟩, ⟨fun _ _ _ h _ => h, fun a' W K hC hd hf hK => ?_⟩, ⟨fun _ _ _ h _ => h, fun a' W K hC hd hf hK => ?_⟩, ⟨fun _ _ _ h _ => h, fun a' W K hC hd hf hK => ?_⟩, trivial⟩
        · refine op_plain rfl ?_
          have f0 : a'.tmps[0]?.getD undef = .string s := (hf.out 0 (by kernel_rfl)).trans (by simp)
          go_simp
          exact hK.out _ _ hC (Below.refl _ _) rfl
        · refine op_plain rfl ?_
          have d49 : a'.tmps[49]?.getD undef = .string s := hd.out 0 49 (by kernel_rfl) rfl
          go_simp
          exact hK.out _ _ hC (Below.refl _ _) rfl
        · refine op_plain rfl ?_
          have d50 : a'.tmps[50]?.getD undef = .int .u8 (B10.toNat : Int) := hd.out 1 50 (by kernel_rfl) rfl
          go_simp
          exact hK.out _ _ hC (Below.refl _ _) rfl
        · refine op_plain rfl ?_
          have d51 : a'.tmps[51]?.getD undef = .int .u16 (B10.toNat : Int) := hd.out 2 51 (by kernel_rfl) rfl
          go_simp
          exact hK.out _ _ hC (Below.refl _ _) rfl
        · refine op_plain rfl ?_
          have f0 : a'.tmps[0]?.getD undef = .string s := (hf.out 0 (by kernel_rfl)).trans (by simp)
          go_simp
          exact hK.out _ _ hC (Below.refl _ _) rfl
        · refine op_plain rfl ?_
          have d53 : a'.tmps[53]?.getD undef = .string s := hd.out 4 53 (by kernel_rfl) rfl
          go_simp
          exact hK.out _ _ hC (Below.refl _ _) rfl
        · refine op_plain rfl ?_
          have d54 : a'.tmps[54]?.getD undef = .int .u8 (B11.toNat : Int) := hd.out 5 54 (by kernel_rfl) rfl
          go_simp
          exact hK.out _ _ hC (Below.refl _ _) rfl
        · refine op_plain rfl ?_
          have d52 : a'.tmps[52]?.getD undef = .int .u16 ((B10.toNat : Int) * 256) := hd.out 3 52 (by kernel_rfl) rfl
          have d55 : a'.tmps[55]?.getD undef = .int .u16 (B11.toNat : Int) := hd.out 6 55 (by kernel_rfl) rfl
          go_simp
          exact hK.out _ _ hC (Below.refl _ _) rfl
        · refine op_plain rfl ?_
          have f4 : a'.tmps[4]?.getD undef = .pointer (some ⟨b, 0, none⟩) := (hf.out 4 (by kernel_rfl)).trans (by simp)
          go_simp
          exact hK.out _ _ hC (Below.refl _ _) rfl
      · intro vs w6 M6 hR
        have q0 : vs 0 = .string s := hR.out 0 (by decide)
        have q1 : vs 1 = .int .u8 (B10.toNat : Int) := hR.out 1 (by decide)
        have q2 : vs 2 = .int .u16 (B10.toNat : Int) := hR.out 2 (by decide)
        have q3 : vs 3 = .int .u16 ((B10.toNat : Int) * 256) := hR.out 3 (by decide)
        have q4 : vs 4 = .string s := hR.out 4 (by decide)
        have q5 : vs 5 = .int .u8 (B11.toNat : Int) := hR.out 5 (by decide)
        have q6 : vs 6 = .int .u16 (B11.toNat : Int) := hR.out 6 (by decide)
        have q7 : vs 7 = .int .u16 (H.flags.toNat : Int) := hR.out 7 (by decide)
        have q8 : vs 8 = .pointer (some ⟨b, 6, none⟩) := hR.out 8 (by decide)
        simp only [List.drop_succ_cons, List.drop_zero, fillF, Act.put, List.setIfInBounds_toArray, List.set_cons_zero, List.set_cons_succ, Nat.reduceAdd, q0, q1, q2, q3, q4, q5, q6, q7, q8]
        clear hR q0 q1 q2 q3 q4 q5 q6 q7 q8
        have c6 : w6.cell? ⟨b, 6, none⟩ = some (.int .u16 0) := (M6.cell (k := 6) rfl).1
        have f6 := (M6.cell (k := 6) rfl).2
        have M7 := hide (show RM w w.heap.size b ⟨H.op, H.ht, H.hl, H.ho, H.xid, H.secs, H.flags, 0, 0, 0, 0, s.extract 28 44, s.extract 44 108, s.extract 108 236⟩ (w6.setCell ⟨b, 6, none⟩ (.int .u16 (H.flags.toNat : Int))) from M6.put (k := 6) (by decide) (.u16 H.flags) rfl)
        go_wp2_with fail
        generalize w6.setCell ⟨b, 6, none⟩ (.int .u16 (H.flags.toNat : Int)) = w7 at *
        clear c6 f6 M6
        refine (X7.out w7).mono ?_
        rintro e _ ⟨rfl, rfl⟩
        have c7 : w7.cell? ⟨b, 7, none⟩ = some (.int .u32 0) := (M7.out.cell (k := 7) rfl).1
        have f7 := (M7.out.cell (k := 7) rfl).2
        have M8 := hide (show RM w w.heap.size b ⟨H.op, H.ht, H.hl, H.ho, H.xid, H.secs, H.flags, H.ci, 0, 0, 0, s.extract 28 44, s.extract 44 108, s.extract 108 236⟩ (w7.setCell ⟨b, 7, none⟩ (.int .u32 (H.ci.toNat : Int))) from M7.out.put (k := 7) (by decide) (.u32 H.ci) rfl)
        go_wp2_with fail
        generalize w7.setCell ⟨b, 7, none⟩ (.int .u32 (H.ci.toNat : Int)) = w8 at *
        clear c7 f7 M7 X7
        refine (X8.out w8).mono ?_
        rintro e _ ⟨rfl, rfl⟩
        have c8 : w8.cell? ⟨b, 8, none⟩ = some (.int .u32 0) := (M8.out.cell (k := 8) rfl).1
        have f8 := (M8.out.cell (k := 8) rfl).2
        have M9 := hide (show RM w w.heap.size b ⟨H.op, H.ht, H.hl, H.ho, H.xid, H.secs, H.flags, H.ci, H.yi, 0, 0, s.extract 28 44, s.extract 44 108, s.extract 108 236⟩ (w8.setCell ⟨b, 8, none⟩ (.int .u32 (H.yi.toNat : Int))) from M8.out.put (k := 8) (by decide) (.u32 H.yi) rfl)
        go_wp2_with fail
        generalize w8.setCell ⟨b, 8, none⟩ (.int .u32 (H.yi.toNat : Int)) = w9 at *
        clear c8 f8 M8 X8
        refine (X9.out w9).mono ?_
        rintro e _ ⟨rfl, rfl⟩
        have c9 : w9.cell? ⟨b, 9, none⟩ = some (.int .u32 0) := (M9.out.cell (k := 9) rfl).1
        have f9 := (M9.out.cell (k := 9) rfl).2
        have Ma := hide (show RM w w.heap.size b ⟨H.op, H.ht, H.hl, H.ho, H.xid, H.secs, H.flags, H.ci, H.yi, H.si, 0, s.extract 28 44, s.extract 44 108, s.extract 108 236⟩ (w9.setCell ⟨b, 9, none⟩ (.int .u32 (H.si.toNat : Int))) from M9.out.put (k := 9) (by decide) (.u32 H.si) rfl)
        go_wp2_with fail
        generalize w9.setCell ⟨b, 9, none⟩ (.int .u32 (H.si.toNat : Int)) = wa at *
        clear c9 f9 M9 X9
        refine (X10.out wa).mono ?_
        rintro e _ ⟨rfl, rfl⟩
        have c10 : wa.cell? ⟨b, 10, none⟩ = some (.int .u32 0) := (Ma.out.cell (k := 10) rfl).1
        have f10 := (Ma.out.cell (k := 10) rfl).2
        have HE : (⟨H.op, H.ht, H.hl, H.ho, H.xid, H.secs, H.flags, H.ci, H.yi, H.si, H.gi, s.extract 28 44, s.extract 44 108, s.extract 108 236⟩ : Hd) = H := by obtain ⟨p1, p2, p3⟩ := HP.out; rw [← p1, ← p2, ← p3]
        have MB0 := (show RM w w.heap.size b ⟨H.op, H.ht, H.hl, H.ho, H.xid, H.secs, H.flags, H.ci, H.yi, H.si, H.gi, s.extract 28 44, s.extract 44 108, s.extract 108 236⟩ (wa.setCell ⟨b, 10, none⟩ (.int .u32 (H.gi.toNat : Int))) from Ma.out.put (k := 10) (by decide) (.u32 H.gi) rfl)
        rw [HE] at MB0
        have MB := hide MB0
        clear MB0 HE HP
        have SX : (s.extract 240 s.size).size ≤ 65507 := by rw [ByteArray.size_extract]; omega
        obtain ⟨X, hX⟩ : ∃ X, s.extract 240 s.size = X := ⟨_, rfl⟩
        rw [hX] at SL SX
        go_upto_region 15 with fail
        generalize wa.setCell ⟨b, 10, none⟩ (.int .u32 (H.gi.toNat : Int)) = wb at *
        clear c10 f10 Ma X10
        have O0 := ownS_one wb X
        have PS := hide (show Calls Try.prog 34 #[.slice (some ⟨wb.heap.size, 0, none⟩) 1 1] (wb.alloc (.cells #[.string X] 9)) (fun e w2 => ∃ v, e = .returned (.tuple #[v, .int .i64 (parseE [lb X] : Nat)]) ∧ Below (wb.alloc (.cells #[.string X] 9)).heap.size (wb.alloc (.cells #[.string X] 9)) w2 ∧ OwnO w2 (wb.alloc (.cells #[.string X] 9)).heap.size v (parseO [lb X])) from rparse_any (ar := [X]) (by simp) (fun x hx => by rw [List.mem_singleton.1 hx]; omega) _ O0.lst)
        have MC := hide (MB.out.step (below_alloc wb (.cells #[.string X] 9)))
        have OC := hide (O0.base MB.out.1.1.size)
        clear O0 MB
        go_wp2_with fail
        refine PS.out.mono ?_
        rintro e wc ⟨vc, rfl, hbc, hoc⟩
        have MD := hide (MC.out.step hbc)
        have OD := hide (OC.out.step hbc)
        have LD := hide (ownO_lst hoc)
        clear hbc hoc MC OC PS
        have hp2 : ¬ ((parseE [lb X] : Nat) : Int) = 0 := by rw [SL.out]; omega
        have DRX := hide (show decR s = (parseE [lb X], zeroH, []) by rw [SL.out]; exact DR.out)
        clear DR hp LD OD
        generalize parseE [lb X] = n at *
        go_wp2_with (refine wpList_store_box rfl (.tmp 2) (.tmp 80) rfl w.heap.size _ zeroH _ (.slice none 0 0) rfl rfl rfl MD.out.1.2.1 ?_; intro w6 G6 B6 _)
        exact bodyPost_ret (v := .tuple #[MV zeroH (.slice none 0 0), .int .i64 (n : Nat)]) (results_box2 rfl _ _ w.heap.size _ _ rfl rfl G6) rfl (dec_zero DRX.out (MD.out.1.1.trans (B6 _ (Nat.le_refl _))))
set_option maxRecDepth 100000 in
set_option maxHeartbeats 8000000 in
theorem rdec_bad (s : ByteArray) (h1 : 240 ≤ s.size) (h2 : s.size ≤ 65507) (h3 : sub s 236 4 = bs cookieL) (hp : parseE [(lb s).drop 240] = 0) (hn : ovN (parseO [(lb s).drop 240]) = none) (w : World) : Calls Try.prog 17 #[.string s] w (DecP s w) := by
  have R0 := hide (box_new w zeroH (.slice none 0 0))
  have D0 := hide (below_alloc w (.cells (cellsM zeroH (.slice none 0 0)) 26))
  have Q1 : ¬ (65507 : Int) < (s.size : Int) := by omega
  have Q2 : ¬ (s.size : Int) < 240 := by omega
  have CK : ((s.extract 236 240).toList == [99, 130, 83, 99]) = true := str_eq (d := s.extract 236 240) (l := [99, 130, 83, 99]) h3
  have RW := hide (fun a (ha : a ≤ 1000) W => rword_any s h2 a ha W)
  have SL := hide (sub_rest s)
  have SZ := hide (getH_siz s h1)
  have DR := hide (show decR s = (130, zeroH, []) by rw [dec_go h1 h2 h3, if_neg (fun e => e hp), hn])
  obtain ⟨hc, hd⟩ := bad_data hn
  have i0 : 0 < s.size := by omega
  have i1 : 1 < s.size := by omega
  have i2 : 2 < s.size := by omega
  have i3 : 3 < s.size := by omega
  have i8 : 8 < s.size := by omega
  have i9 : 9 < s.size := by omega
  have i10 : 10 < s.size := by omega
  have i11 : 11 < s.size := by omega
  have j1 : (1 : Int) < (s.size : Int) := by omega
  have j2 : (2 : Int) < (s.size : Int) := by omega
  have j3 : (3 : Int) < (s.size : Int) := by omega
  have j8 : (8 : Int) < (s.size : Int) := by omega
  have j9 : (9 : Int) < (s.size : Int) := by omega
  have j10 : (10 : Int) < (s.size : Int) := by omega
  have j11 : (11 : Int) < (s.size : Int) := by omega
  have j44 : (44 : Int) ≤ (s.size : Int) := by omega
  have j108 : (108 : Int) ≤ (s.size : Int) := by omega
  have j236 : (236 : Int) ≤ (s.size : Int) := by omega
  have e0 : s[0] = (getH s).op := byte_at s 0 i0
  have e1 : s[1] = (getH s).ht := byte_at s 1 i1
  have e2 : s[2] = (getH s).hl := byte_at s 2 i2
  have e3 : s[3] = (getH s).ho := byte_at s 3 i3
  have g8 := two_at s 8 (by omega)
  have g10 := two_at s 10 (by omega)
  rw [← byte_at s 8 i8, ← byte_at s (8 + 1) i9] at g8
  rw [← byte_at s 10 i10, ← byte_at s (10 + 1) i11] at g10
  have s8 : ((getH s).secs.toNat : Int) = ((s[8].toNat : Nat) : Int) * 256 + ((s[9].toNat : Nat) : Int) := by
    show ((UInt16.ofNat (getV 2 s 8)).toNat : Int) = _
    rw [u16_of _ (getV_lt 2 s 8)]
    have : getV 2 s 8 = s[8].toNat * 256 + s[9].toNat := g8
    omega
  have s10 : ((getH s).flags.toNat : Int) = ((s[10].toNat : Nat) : Int) * 256 + ((s[11].toNat : Nat) : Int) := by
    show ((UInt16.ofNat (getV 2 s 10)).toNat : Int) = _
    rw [u16_of _ (getV_lt 2 s 10)]
    have : getV 2 s 10 = s[10].toNat * 256 + s[11].toNat := g10
    omega
  obtain ⟨B8, e8⟩ : ∃ B, s[8] = B := ⟨_, rfl⟩
  obtain ⟨B9, e9⟩ : ∃ B, s[9] = B := ⟨_, rfl⟩
  obtain ⟨B10, e10⟩ : ∃ B, s[10] = B := ⟨_, rfl⟩
  obtain ⟨B11, e11⟩ : ∃ B, s[11] = B := ⟨_, rfl⟩
  rw [e8, e9] at s8
  rw [e10, e11] at s10
  have b8 := B8.toNat_lt
  have b9 := B9.toNat_lt
  have b10 := B10.toNat_lt
  have b11 := B11.toNat_lt
  have U8 : IntKind.u16.wrap (B8.toNat : Int) = (B8.toNat : Int) := by simp [IntKind.wrap, IntKind.signed, IntKind.bits]; omega
  have U9 : IntKind.u16.wrap (B9.toNat : Int) = (B9.toNat : Int) := by simp [IntKind.wrap, IntKind.signed, IntKind.bits]; omega
  have U10 : IntKind.u16.wrap (B10.toNat : Int) = (B10.toNat : Int) := by simp [IntKind.wrap, IntKind.signed, IntKind.bits]; omega
  have U11 : IntKind.u16.wrap (B11.toNat : Int) = (B11.toNat : Int) := by simp [IntKind.wrap, IntKind.signed, IntKind.bits]; omega
  have V8 : IntKind.u16.wrap ((B8.toNat : Int) * 256) = (B8.toNat : Int) * 256 := by simp [IntKind.wrap, IntKind.signed, IntKind.bits]; omega
  have V10 : IntKind.u16.wrap ((B10.toNat : Int) * 256) = (B10.toNat : Int) * 256 := by simp [IntKind.wrap, IntKind.signed, IntKind.bits]; omega
  have V9 : IntKind.u16.wrap ((B8.toNat : Int) * 256 + (B9.toNat : Int)) = ((getH s).secs.toNat : Int) := by rw [s8]; simp [IntKind.wrap, IntKind.signed, IntKind.bits]; omega
  have V11 : IntKind.u16.wrap ((B10.toNat : Int) * 256 + (B11.toNat : Int)) = ((getH s).flags.toNat : Int) := by rw [s10]; simp [IntKind.wrap, IntKind.signed, IntKind.bits]; omega
  clear g8 g10 s8 s10
  go_enter Try.func17, Try.ntmps17
  go_wp2_with fail
  generalize hW0 : w.alloc (.cells #[.int .u8 0, .int .u8 0, .int .u8 0, .int .u8 0, .int .u32 0, .int .u16 0, .int .u16 0, .int .u32 0, .int .u32 0, .int .u32 0, .int .u32 0, .string ⟨#[]⟩, .string ⟨#[]⟩, .string ⟨#[]⟩, .slice none 0 0] 26) = W0 at *
  have HD0 := hide (show RD w w.heap.size W0 by rw [← hW0]; exact ⟨below_alloc _ _, box_new w zeroH (.slice none 0 0), Nat.le_refl _⟩)
  have j240 : (240 : Int) ≤ (s.size : Int) := by omega
  clear hW0 R0 D0 CK Q1 Q2
  have X4 := hide (fun W => (show Calls Try.prog 33 #[.string s, .int .i64 4] W (Same (.int .u32 ((getH s).xid.toNat : Int)) W) from rword_any s h2 4 (by omega) W))
  have X7 := hide (fun W => (show Calls Try.prog 33 #[.string s, .int .i64 12] W (Same (.int .u32 ((getH s).ci.toNat : Int)) W) from rword_any s h2 12 (by omega) W))
  have X8 := hide (fun W => (show Calls Try.prog 33 #[.string s, .int .i64 16] W (Same (.int .u32 ((getH s).yi.toNat : Int)) W) from rword_any s h2 16 (by omega) W))
  have X9 := hide (fun W => (show Calls Try.prog 33 #[.string s, .int .i64 20] W (Same (.int .u32 ((getH s).si.toNat : Int)) W) from rword_any s h2 20 (by omega) W))
  have X10 := hide (fun W => (show Calls Try.prog 33 #[.string s, .int .i64 24] W (Same (.int .u32 ((getH s).gi.toNat : Int)) W) from rword_any s h2 24 (by omega) W))
  clear RW
  generalize hH : getH s = H at *
  have HH := hide hH
  have HP := hide (show H.hard = s.extract 28 44 ∧ H.name = s.extract 44 108 ∧ H.file = s.extract 108 236 by rw [← hH]; exact ⟨rfl, rfl, rfl⟩)
  clear hH
  refine wp_region_relT 16 1 (RD w w.heap.size) [some 22, some 23, some 24, some 25, some 26, some 27, some 28, some 29, some 30, some 31, some 32, some 33, some 34, some 35, some 36, some 4] [fun yy _ => yy = .string s, fun yy _ => yy = .int .u8 (H.op.toNat : Int), fun yy _ => yy = .string s, fun yy _ => yy = .int .u8 (H.ht.toNat : Int), fun yy _ => yy = .string s, fun yy _ => yy = .int .u8 (H.hl.toNat : Int), fun yy _ => yy = .string s, fun yy _ => yy = .int .u8 (H.ho.toNat : Int), fun yy _ => yy = .string s, fun yy _ => yy = .string (s.extract 28 44), fun yy _ => yy = .string s, fun yy _ => yy = .string (s.extract 44 108), fun yy _ => yy = .string s, fun yy _ => yy = .string (s.extract 108 236), fun yy _ => yy = MV ⟨H.op, H.ht, H.hl, H.ho, 0, 0, 0, 0, 0, 0, 0, s.extract 28 44, s.extract 44 108, s.extract 108 236⟩ (.slice none 0 0), fun yy W => ∃ b, yy = .pointer (some ⟨b, 0, none⟩) ∧ w.heap.size < b ∧ BoxM b zeroH (.slice none 0 0) W] 144 (by kernel_rfl) rfl (by omega) (by kernel_rfl) (by kernel_rfl) rfl rfl (HD0.out.step (below_drew _)) ?_ ?_
  · refine ⟨⟨fun _ _ _ h _ => h, fun a' W K hC hd hf hK => ?_⟩, ⟨fun _ _ _ h _ => h, fun a' W K hC hd hf hK => ?_⟩, ⟨fun _ _ _ h _ => h, fun a' W K hC hd hf hK => ?_⟩, ⟨fun _ _ _ h _ => h, fun a' W K hC hd hf hK => ?_⟩, ⟨fun _ _ _ h _ => h, fun a' W K hC hd hf hK => ?_⟩, ⟨fun _ _ _ h _ => h, fun a' W K hC hd hf hK => ?_⟩, ⟨fun _ _ _ h _ => h, fun a' W K hC hd hf hK => ?_⟩, ⟨fun _ _ _ h _ => h, fun a' W K hC hd hf hK => ?_⟩, ⟨fun _ _ _ h _ => h, fun a' W K hC hd hf hK => ?_⟩, ⟨fun _ _ _ h _ => h, fun a' W K hC hd hf hK => ?_⟩, ⟨fun _ _ _ h _ => h, fun a' W K hC hd hf hK => ?_⟩, ⟨fun _ _ _ h _ => h, fun a' W K hC hd hf hK => ?_⟩, ⟨fun _ _ _ h _ => h, fun a' W K hC hd hf hK => ?_⟩, ⟨fun _ _ _ h _ => h, fun a' W K hC hd hf hK => ?_⟩, ⟨fun _ _ _ h _ => h, fun a' W K hC hd hf hK => ?_⟩, ⟨fun _ _ _ ⟨b, h0, h1, h2⟩ hb => ⟨b, h0, h1, h2.step hb⟩, fun a' W K hC hd hf hK => ?_⟩, trivial⟩
    · refine op_plain rfl ?_
      have f0 : a'.tmps[0]?.getD undef = .string s := (hf.out 0 (by kernel_rfl)).trans (by simp)
      go_simp
      exact hK.out _ _ hC (Below.refl _ _) rfl
    · refine op_plain rfl ?_
      have d22 : a'.tmps[22]?.getD undef = .string s := hd.out 0 22 (by kernel_rfl) rfl
      go_simp
      exact hK.out _ _ hC (Below.refl _ _) rfl
    · refine op_plain rfl ?_
      have f0 : a'.tmps[0]?.getD undef = .string s := (hf.out 0 (by kernel_rfl)).trans (by simp)
      go_simp
      exact hK.out _ _ hC (Below.refl _ _) rfl
    · refine op_plain rfl ?_
      have d24 : a'.tmps[24]?.getD undef = .string s := hd.out 2 24 (by kernel_rfl) rfl
      go_simp
      exact hK.out _ _ hC (Below.refl _ _) rfl
    · refine op_plain rfl ?_
      have f0 : a'.tmps[0]?.getD undef = .string s := (hf.out 0 (by kernel_rfl)).trans (by simp)
      go_simp
      exact hK.out _ _ hC (Below.refl _ _) rfl
    · refine op_plain rfl ?_
      have d26 : a'.tmps[26]?.getD undef = .string s := hd.out 4 26 (by kernel_rfl) rfl
      go_simp
      exact hK.out _ _ hC (Below.refl _ _) rfl
    · refine op_plain rfl ?_
      have f0 : a'.tmps[0]?.getD undef = .string s := (hf.out 0 (by kernel_rfl)).trans (by simp)
      go_simp
      exact hK.out _ _ hC (Below.refl _ _) rfl
    · refine op_plain rfl ?_
      have d28 : a'.tmps[28]?.getD undef = .string s := hd.out 6 28 (by kernel_rfl) rfl
      go_simp
      exact hK.out _ _ hC (Below.refl _ _) rfl
    · refine op_plain rfl ?_
      have f0 : a'.tmps[0]?.getD undef = .string s := (hf.out 0 (by kernel_rfl)).trans (by simp)
      go_simp
      exact hK.out _ _ hC (Below.refl _ _) rfl
    · refine op_plain rfl ?_
      have d30 : a'.tmps[30]?.getD undef = .string s := hd.out 8 30 (by kernel_rfl) rfl
      go_simp
      exact hK.out _ _ hC (Below.refl _ _) rfl
    · refine op_plain rfl ?_
      have f0 : a'.tmps[0]?.getD undef = .string s := (hf.out 0 (by kernel_rfl)).trans (by simp)
      go_simp
      exact hK.out _ _ hC (Below.refl _ _) rfl
    · refine op_plain rfl ?_
      have d32 : a'.tmps[32]?.getD undef = .string s := hd.out 10 32 (by kernel_rfl) rfl
      go_simp
      exact hK.out _ _ hC (Below.refl _ _) rfl
    · refine op_plain rfl ?_
      have f0 : a'.tmps[0]?.getD undef = .string s := (hf.out 0 (by kernel_rfl)).trans (by simp)
      go_simp
      exact hK.out _ _ hC (Below.refl _ _) rfl
    · refine op_plain rfl ?_
      have d34 : a'.tmps[34]?.getD undef = .string s := hd.out 12 34 (by kernel_rfl) rfl
      go_simp
      exact hK.out _ _ hC (Below.refl _ _) rfl
    · refine op_plain rfl ?_
      have d23 : a'.tmps[23]?.getD undef = .int .u8 (H.op.toNat : Int) := hd.out 1 23 (by kernel_rfl) rfl
      have d25 : a'.tmps[25]?.getD undef = .int .u8 (H.ht.toNat : Int) := hd.out 3 25 (by kernel_rfl) rfl
      have d27 : a'.tmps[27]?.getD undef = .int .u8 (H.hl.toNat : Int) := hd.out 5 27 (by kernel_rfl) rfl
      have d29 : a'.tmps[29]?.getD undef = .int .u8 (H.ho.toNat : Int) := hd.out 7 29 (by kernel_rfl) rfl
      have d31 : a'.tmps[31]?.getD undef = .string (s.extract 28 44) := hd.out 9 31 (by kernel_rfl) rfl
      have d33 : a'.tmps[33]?.getD undef = .string (s.extract 44 108) := hd.out 11 33 (by kernel_rfl) rfl
      have d35 : a'.tmps[35]?.getD undef = .string (s.extract 108 236) := hd.out 13 35 (by kernel_rfl) rfl
      go_simp
      exact hK.out _ _ hC (Below.refl _ _) rfl
    · refine op_plain rfl ?_
      go_simp
      exact hK.out _ _ (hC.step (below_alloc W _)) (below_alloc W _) ⟨_, rfl, lt_of_block hC.2.1, box_new W zeroH _⟩
  · intro vs W5 H5 hR
    have q0 : vs 0 = .string s := hR.out 0 (by decide)
    have q1 : vs 1 = .int .u8 (H.op.toNat : Int) := hR.out 1 (by decide)
    have q2 : vs 2 = .string s := hR.out 2 (by decide)
    have q3 : vs 3 = .int .u8 (H.ht.toNat : Int) := hR.out 3 (by decide)
    have q4 : vs 4 = .string s := hR.out 4 (by decide)
    have q5 : vs 5 = .int .u8 (H.hl.toNat : Int) := hR.out 5 (by decide)
    have q6 : vs 6 = .string s := hR.out 6 (by decide)
    have q7 : vs 7 = .int .u8 (H.ho.toNat : Int) := hR.out 7 (by decide)
    have q8 : vs 8 = .string s := hR.out 8 (by decide)
    have q9 : vs 9 = .string (s.extract 28 44) := hR.out 9 (by decide)
    have q10 : vs 10 = .string s := hR.out 10 (by decide)
    have q11 : vs 11 = .string (s.extract 44 108) := hR.out 11 (by decide)
    have q12 : vs 12 = .string s := hR.out 12 (by decide)
    have q13 : vs 13 = .string (s.extract 108 236) := hR.out 13 (by decide)
    have q14 : vs 14 = MV ⟨H.op, H.ht, H.hl, H.ho, 0, 0, 0, 0, 0, 0, 0, s.extract 28 44, s.extract 44 108, s.extract 108 236⟩ (.slice none 0 0) := hR.out 14 (by decide)
    have r15 := hR.out 15 (by decide)
    generalize hq15 : vs 15 = q15 at *
    change (fun yy W => ∃ b, yy = .pointer (some ⟨b, 0, none⟩) ∧ w.heap.size < b ∧ BoxM b zeroH (.slice none 0 0) W) q15 W5 at r15
    simp only [List.drop_succ_cons, List.drop_zero, fillF, Act.put, List.setIfInBounds_toArray, List.set_cons_zero, List.set_cons_succ, Nat.reduceAdd, q0, q1, q2, q3, q4, q5, q6, q7, q8, q9, q10, q11, q12, q13, q14, hq15]
    clear hR q0 q1 q2 q3 q4 q5 q6 q7 q8 q9 q10 q11 q12 q13 q14 hq15
    obtain ⟨b, rfl, hb, gb⟩ := r15
    have HM := hide (show w.heap.size < b ∧ RD w w.heap.size W5 ∧ BoxM b zeroH (.slice none 0 0) W5 from ⟨hb, H5, gb⟩)
    clear hb gb e0 e1 e2 e3 i0 i1 i2 i3 j1 j2 j3 j44 j108 j236
    go_wp2_with (refine wpList_store_box rfl (.tmp 4) (.tmp 36) rfl b _ ⟨H.op, H.ht, H.hl, H.ho, 0, 0, 0, 0, 0, 0, 0, s.extract 28 44, s.extract 44 108, s.extract 108 236⟩ _ (.slice none 0 0) rfl rfl rfl HM.out.2.2 ?_; intro w2 g2 b2 z2; have M2 := hide (show RM w w.heap.size b ⟨H.op, H.ht, H.hl, H.ho, 0, 0, 0, 0, 0, 0, 0, s.extract 28 44, s.extract 44 108, s.extract 108 236⟩ w2 from ⟨⟨HM.out.2.1.1.trans (b2 _ (Nat.le_of_lt HM.out.1)), (z2 _ (Nat.ne_of_lt HM.out.1)).trans HM.out.2.1.2.1, Nat.le_refl _⟩, g2, HM.out.1⟩); clear g2 b2 z2 HM)
    refine (X4.out w2).mono ?_
    rintro e _ ⟨rfl, rfl⟩
    have c4 : w2.cell? ⟨b, 4, none⟩ = some (.int .u32 0) := (M2.out.cell (k := 4) rfl).1
    have f4 := (M2.out.cell (k := 4) rfl).2
    have M3 := hide (show RM w w.heap.size b ⟨H.op, H.ht, H.hl, H.ho, H.xid, 0, 0, 0, 0, 0, 0, s.extract 28 44, s.extract 44 108, s.extract 108 236⟩ (w2.setCell ⟨b, 4, none⟩ (.int .u32 (H.xid.toNat : Int))) from M2.out.put (k := 4) (by decide) (.u32 H.xid) rfl)
    go_wp2_with fail
    generalize w2.setCell ⟨b, 4, none⟩ (.int .u32 (H.xid.toNat : Int)) = w3 at *
    clear c4 f4 M2 X4
    refine wp_region_relT 9 1 (RM w w.heap.size b ⟨H.op, H.ht, H.hl, H.ho, H.xid, 0, 0, 0, 0, 0, 0, s.extract 28 44, s.extract 44 108, s.extract 108 236⟩) [some 40, some 41, some 42, some 43, some 44, some 45, some 46, some 47, some 48] [fun yy _ => yy = .string s, fun yy _ => yy = .int .u8 (B8.toNat : Int), fun yy _ => yy = .int .u16 (B8.toNat : Int), fun yy _ => yy = .int .u16 ((B8.toNat : Int) * 256), fun yy _ => yy = .string s, fun yy _ => yy = .int .u8 (B9.toNat : Int), fun yy _ => yy = .int .u16 (B9.toNat : Int), fun yy _ => yy = .int .u16 (H.secs.toNat : Int), fun yy _ => yy = .pointer (some ⟨b, 5, none⟩)] 144 (by kernel_rfl) rfl (by omega) (by kernel_rfl) (by kernel_rfl) rfl rfl (M3.out.step (below_drew _)) ?_ ?_
    · refine ⟨⟨fun _ _ _ h _ => h, fun a' W K hC hd hf hK => ?_⟩, ⟨fun _ _ _ h _ => h, fun a' W K hC hd hf hK => ?_⟩, ⟨fun _ _ _ h _ => h, fun a' W K hC hd hf hK => ?_⟩, ⟨fun _ _ _ h _ => h, fun a' W K hC hd hf hK => ?_⟩, ⟨fun _ _ _ h _ => h, fun a' W K hC hd hf hK => ?_⟩, ⟨fun _ _ _ h _ => h, fun a' W K hC hd hf hK => ?_⟩, ⟨fun _ _ _ h _ => h, fun a' W K hC hd hf hK => ?_⟩, ⟨fun _ _ _ h _ => h, fun a' W K hC hd hf hK => ?_⟩, ⟨fun _ _ _ h _ => h, fun a' W K hC hd hf hK => ?_⟩, trivial⟩
      · refine op_plain rfl ?_
        have f0 : a'.tmps[0]?.getD undef = .string s := (hf.out 0 (by kernel_rfl)).trans (by simp)
        go_simp
        exact hK.out _ _ hC (Below.refl _ _) rfl
      · refine op_plain rfl ?_
        have d40 : a'.tmps[40]?.getD undef = .string s := hd.out 0 40 (by kernel_rfl) rfl
        go_simp
        exact hK.out _ _ hC (Below.refl _ _) rfl
      · refine op_plain rfl ?_
        have d41 : a'.tmps[41]?.getD undef = .int .u8 (B8.toNat : Int) := hd.out 1 41 (by kernel_rfl) rfl
        go_simp
        exact hK.out _ _ hC (Below.refl _ _) rfl
      · refine op_plain rfl ?_
        have d42 : a'.tmps[42]?.getD undef = .int .u16 (B8.toNat : Int) := hd.out 2 42 (by kernel_rfl) rfl
        go_simp
        exact hK.out _ _ hC (Below.refl _ _) rfl
      · refine op_plain rfl ?_
        have f0 : a'.tmps[0]?.getD undef = .string s := (hf.out 0 (by kernel_rfl)).trans (by simp)
        go_simp
        exact hK.out _ _ hC (Below.refl _ _) rfl
      · refine op_plain rfl ?_
        have d44 : a'.tmps[44]?.getD undef = .string s := hd.out 4 44 (by kernel_rfl) rfl
        go_simp
        exact hK.out _ _ hC (Below.refl _ _) rfl
      · refine op_plain rfl ?_
        have d45 : a'.tmps[45]?.getD undef = .int .u8 (B9.toNat : Int) := hd.out 5 45 (by kernel_rfl) rfl
        go_simp
        exact hK.out _ _ hC (Below.refl _ _) rfl
      · refine op_plain rfl ?_
        have d43 : a'.tmps[43]?.getD undef = .int .u16 ((B8.toNat : Int) * 256) := hd.out 3 43 (by kernel_rfl) rfl
        have d46 : a'.tmps[46]?.getD undef = .int .u16 (B9.toNat : Int) := hd.out 6 46 (by kernel_rfl) rfl
        go_simp
        exact hK.out _ _ hC (Below.refl _ _) rfl
      · refine op_plain rfl ?_
        have f4 : a'.tmps[4]?.getD undef = .pointer (some ⟨b, 0, none⟩) := (hf.out 4 (by kernel_rfl)).trans (by simp)
        go_simp
        exact hK.out _ _ hC (Below.refl _ _) rfl
    · intro vs w4 M4 hR
      have q0 : vs 0 = .string s := hR.out 0 (by decide)
      have q1 : vs 1 = .int .u8 (B8.toNat : Int) := hR.out 1 (by decide)
      have q2 : vs 2 = .int .u16 (B8.toNat : Int) := hR.out 2 (by decide)
      have q3 : vs 3 = .int .u16 ((B8.toNat : Int) * 256) := hR.out 3 (by decide)
      have q4 : vs 4 = .string s := hR.out 4 (by decide)
      have q5 : vs 5 = .int .u8 (B9.toNat : Int) := hR.out 5 (by decide)
      have q6 : vs 6 = .int .u16 (B9.toNat : Int) := hR.out 6 (by decide)
      have q7 : vs 7 = .int .u16 (H.secs.toNat : Int) := hR.out 7 (by decide)
      have q8 : vs 8 = .pointer (some ⟨b, 5, none⟩) := hR.out 8 (by decide)
      simp only [List.drop_succ_cons, List.drop_zero, fillF, Act.put, List.setIfInBounds_toArray, List.set_cons_zero, List.set_cons_succ, Nat.reduceAdd, q0, q1, q2, q3, q4, q5, q6, q7, q8]
      clear hR q0 q1 q2 q3 q4 q5 q6 q7 q8
      have c5 : w4.cell? ⟨b, 5, none⟩ = some (.int .u16 0) := (M4.cell (k := 5) rfl).1
      have f5 := (M4.cell (k := 5) rfl).2
      have M5 := hide (show RM w w.heap.size b ⟨H.op, H.ht, H.hl, H.ho, H.xid, H.secs, 0, 0, 0, 0, 0, s.extract 28 44, s.extract 44 108, s.extract 108 236⟩ (w4.setCell ⟨b, 5, none⟩ (.int .u16 (H.secs.toNat : Int))) from M4.put (k := 5) (by decide) (.u16 H.secs) rfl)
      go_wp2_with fail
      generalize w4.setCell ⟨b, 5, none⟩ (.int .u16 (H.secs.toNat : Int)) = w5 at *
      clear c5 f5 M4
      refine wp_region_relT 9 1 (RM w w.heap.size b ⟨H.op, H.ht, H.hl, H.ho, H.xid, H.secs, 0, 0, 0, 0, 0, s.extract 28 44, s.extract 44 108, s.extract 108 236⟩) [some 49, some 50, some 51, some 52, some 53, some 54, some 55, some 56, some 57] [fun yy _ => yy = .string s, fun yy _ => yy = .int .u8 (B10.toNat : Int), fun yy _ => yy = .int .u16 (B10.toNat : Int), fun yy _ => yy = .int .u16 ((B10.toNat : Int) * 256), fun yy _ => yy = .string s, fun yy _ => yy = .int .u8 (B11.toNat : Int), fun yy _ => yy = .int .u16 (B11.toNat : Int), fun yy _ => yy = .int .u16 (H.flags.toNat : Int), fun yy _ => yy = .pointer (some ⟨b, 6, none⟩)] 144 (by kernel_rfl) rfl (by omega) (by kernel_rfl) (by kernel_rfl) rfl rfl (M5.out.step (below_drew _)) ?_ ?_
      · refine ⟨⟨fun _ _ _ h _ => h, fun a' W K hC hd hf hK => ?_⟩, ⟨fun _ _ _ h _ => h, fun a' W K hC hd hf hK => ?_⟩, ⟨fun _ _ _ h _ => h, fun a' W K hC hd hf hK => ?_⟩, ⟨fun _ _ _ h _ => h, fun a' W K hC hd hf hK => ?_⟩, ⟨fun _ _ _ h _ => h, fun a' W K hC hd hf hK => ?_⟩, ⟨fun _ _ _ h _ => h, fun a' W K hC hd hf hK => ?_⟩, ⟨fun _ _ _ h _ => h, fun a' W K hC hd hf hK => ?_⟩, ⟨fun _ _ _ h _ => h, fun a' W K hC hd hf hK => ?_⟩, ⟨fun _ _ _ h _ => h, fun a' W K hC hd hf hK => ?_⟩, trivial⟩
        · refine op_plain rfl ?_
          have f0 : a'.tmps[0]?.getD undef = .string s := (hf.out 0 (by kernel_rfl)).trans (by simp)
          go_simp
          exact hK.out _ _ hC (Below.refl _ _) rfl
        · refine op_plain rfl ?_
          have d49 : a'.tmps[49]?.getD undef = .string s := hd.out 0 49 (by kernel_rfl) rfl
          go_simp
          exact hK.out _ _ hC (Below.refl _ _) rfl
        · refine op_plain rfl ?_
          have d50 : a'.tmps[50]?.getD undef = .int .u8 (B10.toNat : Int) := hd.out 1 50 (by kernel_rfl) rfl
          go_simp
          exact hK.out _ _ hC (Below.refl _ _) rfl
        · refine op_plain rfl ?_
          have d51 : a'.tmps[51]?.getD undef = .int .u16 (B10.toNat : Int) := hd.out 2 51 (by kernel_rfl) rfl
          go_simp
          exact hK.out _ _ hC (Below.refl _ _) rfl
        · refine op_plain rfl ?_
          have f0 : a'.tmps[0]?.getD undef = .string s := (hf.out 0 (by kernel_rfl)).trans (by simp)
          go_simp
          exact hK.out _ _ hC (Below.refl _ _) rfl
        · refine op_plain rfl ?_
          have d53 : a'.tmps[53]?.getD undef = .string s := hd.out 4 53 (by kernel_rfl) rfl
          go_simp
          exact hK.out _ _ hC (Below.refl _ _) rfl
        · refine op_plain rfl ?_
          have d54 : a'.tmps[54]?.getD undef = .int .u8 (B11.toNat : Int) := hd.out 5 54 (by kernel_rfl) rfl
          go_simp
          exact hK.out _ _ hC (Below.refl _ _) rfl
        · refine op_plain rfl ?_
          have d52 : a'.tmps[52]?.getD undef = .int .u16 ((B10.toNat : Int) * 256) := hd.out 3 52 (by kernel_rfl) rfl
          have d55 : a'.tmps[55]?.getD undef = .int .u16 (B11.toNat : Int) := hd.out 6 55 (by kernel_rfl) rfl
          go_simp
          exact hK.out _ _ hC (Below.refl _ _) rfl
        · refine op_plain rfl ?_
          have f4 : a'.tmps[4]?.getD undef = .pointer (some ⟨b, 0, none⟩) := (hf.out 4 (by kernel_rfl)).trans (by simp)
          go_simp
          exact hK.out _ _ hC (Below.refl _ _) rfl
      · intro vs w6 M6 hR
        have q0 : vs 0 = .string s := hR.out 0 (by decide)
        have q1 : vs 1 = .int .u8 (B10.toNat : Int) := hR.out 1 (by decide)
        have q2 : vs 2 = .int .u16 (B10.toNat : Int) := hR.out 2 (by decide)
        have q3 : vs 3 = .int .u16 ((B10.toNat : Int) * 256) := hR.out 3 (by decide)
        have q4 : vs 4 = .string s := hR.out 4 (by decide)
        have q5 : vs 5 = .int .u8 (B11.toNat : Int) := hR.out 5 (by decide)
        have q6 : vs 6 = .int .u16 (B11.toNat : Int) := hR.out 6 (by decide)
        have q7 : vs 7 = .int .u16 (H.flags.toNat : Int) := hR.out 7 (by decide)
        have q8 : vs 8 = .pointer (some ⟨b, 6, none⟩) := hR.out 8 (by decide)
        simp only [List.drop_succ_cons, List.drop_zero, fillF, Act.put, List.setIfInBounds_toArray, List.set_cons_zero, List.set_cons_succ, Nat.reduceAdd, q0, q1, q2, q3, q4, q5, q6, q7, q8]
        clear hR q0 q1 q2 q3 q4 q5 q6 q7 q8
        have c6 : w6.cell? ⟨b, 6, none⟩ = some (.int .u16 0) := (M6.cell (k := 6) rfl).1
        have f6 := (M6.cell (k := 6) rfl).2
        have M7 := hide (show RM w w.heap.size b ⟨H.op, H.ht, H.hl, H.ho, H.xid, H.secs, H.flags, 0, 0, 0, 0, s.extract 28 44, s.extract 44 108, s.extract 108 236⟩ (w6.setCell ⟨b, 6, none⟩ (.int .u16 (H.flags.toNat : Int))) from M6.put (k := 6) (by decide) (.u16 H.flags) rfl)
        go_wp2_with fail
        generalize w6.setCell ⟨b, 6, none⟩ (.int .u16 (H.flags.toNat : Int)) = w7 at *
        clear c6 f6 M6
        refine (X7.out w7).mono ?_
        rintro e _ ⟨rfl, rfl⟩
        have c7 : w7.cell? ⟨b, 7, none⟩ = some (.int .u32 0) := (M7.out.cell (k := 7) rfl).1
        have f7 := (M7.out.cell (k := 7) rfl).2
        have M8 := hide (show RM w w.heap.size b ⟨H.op, H.ht, H.hl, H.ho, H.xid, H.secs, H.flags, H.ci, 0, 0, 0, s.extract 28 44, s.extract 44 108, s.extract 108 236⟩ (w7.setCell ⟨b, 7, none⟩ (.int .u32 (H.ci.toNat : Int))) from M7.out.put (k := 7) (by decide) (.u32 H.ci) rfl)
        go_wp2_with fail
        generalize w7.setCell ⟨b, 7, none⟩ (.int .u32 (H.ci.toNat : Int)) = w8 at *
        clear c7 f7 M7 X7
        refine (X8.out w8).mono ?_
        rintro e _ ⟨rfl, rfl⟩
        have c8 : w8.cell? ⟨b, 8, none⟩ = some (.int .u32 0) := (M8.out.cell (k := 8) rfl).1
        have f8 := (M8.out.cell (k := 8) rfl).2
        have M9 := hide (show RM w w.heap.size b ⟨H.op, H.ht, H.hl, H.ho, H.xid, H.secs, H.flags, H.ci, H.yi, 0, 0, s.extract 28 44, s.extract 44 108, s.extract 108 236⟩ (w8.setCell ⟨b, 8, none⟩ (.int .u32 (H.yi.toNat : Int))) from M8.out.put (k := 8) (by decide) (.u32 H.yi) rfl)
        go_wp2_with fail
        generalize w8.setCell ⟨b, 8, none⟩ (.int .u32 (H.yi.toNat : Int)) = w9 at *
        clear c8 f8 M8 X8
        refine (X9.out w9).mono ?_
        rintro e _ ⟨rfl, rfl⟩
        have c9 : w9.cell? ⟨b, 9, none⟩ = some (.int .u32 0) := (M9.out.cell (k := 9) rfl).1
        have f9 := (M9.out.cell (k := 9) rfl).2
        have Ma := hide (show RM w w.heap.size b ⟨H.op, H.ht, H.hl, H.ho, H.xid, H.secs, H.flags, H.ci, H.yi, H.si, 0, s.extract 28 44, s.extract 44 108, s.extract 108 236⟩ (w9.setCell ⟨b, 9, none⟩ (.int .u32 (H.si.toNat : Int))) from M9.out.put (k := 9) (by decide) (.u32 H.si) rfl)
        go_wp2_with fail
        generalize w9.setCell ⟨b, 9, none⟩ (.int .u32 (H.si.toNat : Int)) = wa at *
        clear c9 f9 M9 X9
        refine (X10.out wa).mono ?_
        rintro e _ ⟨rfl, rfl⟩
        have c10 : wa.cell? ⟨b, 10, none⟩ = some (.int .u32 0) := (Ma.out.cell (k := 10) rfl).1
        have f10 := (Ma.out.cell (k := 10) rfl).2
        have HE : (⟨H.op, H.ht, H.hl, H.ho, H.xid, H.secs, H.flags, H.ci, H.yi, H.si, H.gi, s.extract 28 44, s.extract 44 108, s.extract 108 236⟩ : Hd) = H := by obtain ⟨p1, p2, p3⟩ := HP.out; rw [← p1, ← p2, ← p3]
        have MB0 := (show RM w w.heap.size b ⟨H.op, H.ht, H.hl, H.ho, H.xid, H.secs, H.flags, H.ci, H.yi, H.si, H.gi, s.extract 28 44, s.extract 44 108, s.extract 108 236⟩ (wa.setCell ⟨b, 10, none⟩ (.int .u32 (H.gi.toNat : Int))) from Ma.out.put (k := 10) (by decide) (.u32 H.gi) rfl)
        rw [HE] at MB0
        have MB := hide MB0
        clear MB0 HE HP
        have SX : (s.extract 240 s.size).size ≤ 65507 := by rw [ByteArray.size_extract]; omega
        obtain ⟨X, hX⟩ : ∃ X, s.extract 240 s.size = X := ⟨_, rfl⟩
        rw [hX] at SL SX
        go_upto_region 15 with fail
        generalize wa.setCell ⟨b, 10, none⟩ (.int .u32 (H.gi.toNat : Int)) = wb at *
        clear c10 f10 Ma X10
        have O0 := ownS_one wb X
        have PS := hide (show Calls Try.prog 34 #[.slice (some ⟨wb.heap.size, 0, none⟩) 1 1] (wb.alloc (.cells #[.string X] 9)) (fun e w2 => ∃ v, e = .returned (.tuple #[v, .int .i64 (parseE [lb X] : Nat)]) ∧ Below (wb.alloc (.cells #[.string X] 9)).heap.size (wb.alloc (.cells #[.string X] 9)) w2 ∧ OwnO w2 (wb.alloc (.cells #[.string X] 9)).heap.size v (parseO [lb X])) from rparse_any (ar := [X]) (by simp) (fun x hx => by rw [List.mem_singleton.1 hx]; omega) _ O0.lst)
        have MC := hide (MB.out.step (below_alloc wb (.cells #[.string X] 9)))
        have OC := hide (O0.base MB.out.1.1.size)
        clear O0 MB
        go_wp2_with fail
        refine PS.out.mono ?_
        rintro e wc ⟨vc, rfl, hbc, hoc⟩
        have MD := hide (MC.out.step hbc)
        have OD := hide (OC.out.step hbc)
        have LD := hide (ownO_lst hoc)
        clear hbc hoc MC OC PS
        have Q0 : ((parseE [lb X] : Nat) : Int) = 0 := by rw [SL.out, hp]; rfl
        have FI := hide (rfind_any 52 (l := parseO [lb X]) (by have := parseO_len [lb X]; omega) wc LD.out)
        rw [SL.out] at FI
        clear LD
        rw [hc] at FI
        generalize findD (parseO [(lb s).drop 240]) 52 = d at *
        clear hn hc
        go_wp2_with fail
        refine FI.out.mono ?_
        rintro e wd ⟨rfl, hbd⟩
        have ME := hide (MD.out.step hbd)
        have OE := hide (OD.out.step hbd)
        clear hbd MD OD FI
        rcases hd with hd | ⟨x, hx, hd | hd⟩
        · have E1 := neq_no (n := d.size) (k := 1) (by omega)
          clear hd
          go_wp2_with (refine wpList_store_box rfl (.tmp 2) (.tmp 103) rfl w.heap.size _ zeroH _ (.slice none 0 0) rfl rfl rfl ME.out.1.2.1 ?_; intro w6 G6 B6 _)
          exact bodyPost_ret (v := .tuple #[MV zeroH (.slice none 0 0), .int .i64 130]) (results_box2 rfl _ _ w.heap.size _ _ rfl rfl G6) rfl (dec_zero DR.out (ME.out.1.1.trans (B6 _ (Nat.le_refl _))))
        · have ds : d.size = 1 := by rw [hx]; rfl
          have E1 : ((d.size : Nat) : Int) = 1 := by rw [ds]; rfl
          have i0 : 0 < d.size := by omega
          have d0 : d[0] = x := by subst hx; rfl
          clear hx
          go_wp2_with (refine wpList_store_box rfl (.tmp 2) (.tmp 103) rfl w.heap.size _ zeroH _ (.slice none 0 0) rfl rfl rfl ME.out.1.2.1 ?_; intro w6 G6 B6 _)
          exact bodyPost_ret (v := .tuple #[MV zeroH (.slice none 0 0), .int .i64 130]) (results_box2 rfl _ _ w.heap.size _ _ rfl rfl G6) rfl (dec_zero DR.out (ME.out.1.1.trans (B6 _ (Nat.le_refl _))))
        · have ds : d.size = 1 := by rw [hx]; rfl
          have E1 : ((d.size : Nat) : Int) = 1 := by rw [ds]; rfl
          have i0 : 0 < d.size := by omega
          have d0 : d[0] = x := by subst hx; rfl
          clear hx
          have E2 : ¬ (x.toNat : Int) < 1 := by omega
          go_wp2_with (refine wpList_store_box rfl (.tmp 2) (.tmp 103) rfl w.heap.size _ zeroH _ (.slice none 0 0) rfl rfl rfl ME.out.1.2.1 ?_; intro w6 G6 B6 _)
          exact bodyPost_ret (v := .tuple #[MV zeroH (.slice none 0 0), .int .i64 130]) (results_box2 rfl _ _ w.heap.size _ _ rfl rfl G6) rfl (dec_zero DR.out (ME.out.1.1.trans (B6 _ (Nat.le_refl _))))
set_option maxRecDepth 100000 in
set_option maxHeartbeats 8000000 in
theorem rdec_0 (s : ByteArray) (h1 : 240 ≤ s.size) (h2 : s.size ≤ 65507) (h3 : sub s 236 4 = bs cookieL) (hp : parseE [(lb s).drop 240] = 0) (hn : ovN (parseO [(lb s).drop 240]) = some 0) (hc : hasC 52 (parseO [(lb s).drop 240]) = false) (w : World) : Calls Try.prog 17 #[.string s] w (DecP s w) := by
  have R0 := hide (box_new w zeroH (.slice none 0 0))
  have D0 := hide (below_alloc w (.cells (cellsM zeroH (.slice none 0 0)) 26))
  have Q1 : ¬ (65507 : Int) < (s.size : Int) := by omega
  have Q2 : ¬ (s.size : Int) < 240 := by omega
  have CK : ((s.extract 236 240).toList == [99, 130, 83, 99]) = true := str_eq (d := s.extract 236 240) (l := [99, 130, 83, 99]) h3
  have RW := hide (fun a (ha : a ≤ 1000) W => rword_any s h2 a ha W)
  have SL := hide (sub_rest s)
  have SZ := hide (getH_siz s h1)
  have DR1 := hide (show decR s = (if parseE (areasL s (getH s) 0) ≠ 0 then (parseE (areasL s (getH s) 0), zeroH, []) else (0, headN (getH s) 0, kept 52 (parseO (areasL s (getH s) 0)))) by rw [dec_go h1 h2 h3, if_neg (fun e => e hp), hn])
  have AS := hide (areas_small h2 0)
  have i0 : 0 < s.size := by omega
  have i1 : 1 < s.size := by omega
  have i2 : 2 < s.size := by omega
  have i3 : 3 < s.size := by omega
  have i8 : 8 < s.size := by omega
  have i9 : 9 < s.size := by omega
  have i10 : 10 < s.size := by omega
  have i11 : 11 < s.size := by omega
  have j1 : (1 : Int) < (s.size : Int) := by omega
  have j2 : (2 : Int) < (s.size : Int) := by omega
  have j3 : (3 : Int) < (s.size : Int) := by omega
  have j8 : (8 : Int) < (s.size : Int) := by omega
  have j9 : (9 : Int) < (s.size : Int) := by omega
  have j10 : (10 : Int) < (s.size : Int) := by omega
  have j11 : (11 : Int) < (s.size : Int) := by omega
  have j44 : (44 : Int) ≤ (s.size : Int) := by omega
  have j108 : (108 : Int) ≤ (s.size : Int) := by omega
  have j236 : (236 : Int) ≤ (s.size : Int) := by omega
  have e0 : s[0] = (getH s).op := byte_at s 0 i0
  have e1 : s[1] = (getH s).ht := byte_at s 1 i1
  have e2 : s[2] = (getH s).hl := byte_at s 2 i2
  have e3 : s[3] = (getH s).ho := byte_at s 3 i3
  have g8 := two_at s 8 (by omega)
  have g10 := two_at s 10 (by omega)
  rw [← byte_at s 8 i8, ← byte_at s (8 + 1) i9] at g8
  rw [← byte_at s 10 i10, ← byte_at s (10 + 1) i11] at g10
  have s8 : ((getH s).secs.toNat : Int) = ((s[8].toNat : Nat) : Int) * 256 + ((s[9].toNat : Nat) : Int) := by
    show ((UInt16.ofNat (getV 2 s 8)).toNat : Int) = _
    rw [u16_of _ (getV_lt 2 s 8)]
    have : getV 2 s 8 = s[8].toNat * 256 + s[9].toNat := g8
    omega
  have s10 : ((getH s).flags.toNat : Int) = ((s[10].toNat : Nat) : Int) * 256 + ((s[11].toNat : Nat) : Int) := by
    show ((UInt16.ofNat (getV 2 s 10)).toNat : Int) = _
    rw [u16_of _ (getV_lt 2 s 10)]
    have : getV 2 s 10 = s[10].toNat * 256 + s[11].toNat := g10
    omega
  obtain ⟨B8, e8⟩ : ∃ B, s[8] = B := ⟨_, rfl⟩
  obtain ⟨B9, e9⟩ : ∃ B, s[9] = B := ⟨_, rfl⟩
  obtain ⟨B10, e10⟩ : ∃ B, s[10] = B := ⟨_, rfl⟩
  obtain ⟨B11, e11⟩ : ∃ B, s[11] = B := ⟨_, rfl⟩
  rw [e8, e9] at s8
  rw [e10, e11] at s10
  have b8 := B8.toNat_lt
  have b9 := B9.toNat_lt
  have b10 := B10.toNat_lt
  have b11 := B11.toNat_lt
  have U8 : IntKind.u16.wrap (B8.toNat : Int) = (B8.toNat : Int) := by simp [IntKind.wrap, IntKind.signed, IntKind.bits]; omega
  have U9 : IntKind.u16.wrap (B9.toNat : Int) = (B9.toNat : Int) := by simp [IntKind.wrap, IntKind.signed, IntKind.bits]; omega
  have U10 : IntKind.u16.wrap (B10.toNat : Int) = (B10.toNat : Int) := by simp [IntKind.wrap, IntKind.signed, IntKind.bits]; omega
  have U11 : IntKind.u16.wrap (B11.toNat : Int) = (B11.toNat : Int) := by simp [IntKind.wrap, IntKind.signed, IntKind.bits]; omega
  have V8 : IntKind.u16.wrap ((B8.toNat : Int) * 256) = (B8.toNat : Int) * 256 := by simp [IntKind.wrap, IntKind.signed, IntKind.bits]; omega
  have V10 : IntKind.u16.wrap ((B10.toNat : Int) * 256) = (B10.toNat : Int) * 256 := by simp [IntKind.wrap, IntKind.signed, IntKind.bits]; omega
  have V9 : IntKind.u16.wrap ((B8.toNat : Int) * 256 + (B9.toNat : Int)) = ((getH s).secs.toNat : Int) := by rw [s8]; simp [IntKind.wrap, IntKind.signed, IntKind.bits]; omega
  have V11 : IntKind.u16.wrap ((B10.toNat : Int) * 256 + (B11.toNat : Int)) = ((getH s).flags.toNat : Int) := by rw [s10]; simp [IntKind.wrap, IntKind.signed, IntKind.bits]; omega
  clear g8 g10 s8 s10
  go_enter Try.func17, Try.ntmps17
  go_wp2_with fail
  generalize hW0 : w.alloc (.cells #[.int .u8 0, .int .u8 0, .int .u8 0, .int .u8 0, .int .u32 0, .int .u16 0, .int .u16 0, .int .u32 0, .int .u32 0, .int .u32 0, .int .u32 0, .string ⟨#[]⟩, .string ⟨#[]⟩, .string ⟨#[]⟩, .slice none 0 0] 26) = W0 at *
  have HD0 := hide (show RD w w.heap.size W0 by rw [← hW0]; exact ⟨below_alloc _ _, box_new w zeroH (.slice none 0 0), Nat.le_refl _⟩)
  have j240 : (240 : Int) ≤ (s.size : Int) := by omega
  clear hW0 R0 D0 CK Q1 Q2
  have X4 := hide (fun W => (show Calls Try.prog 33 #[.string s, .int .i64 4] W (Same (.int .u32 ((getH s).xid.toNat : Int)) W) from rword_any s h2 4 (by omega) W))
  have X7 := hide (fun W => (show Calls Try.prog 33 #[.string s, .int .i64 12] W (Same (.int .u32 ((getH s).ci.toNat : Int)) W) from rword_any s h2 12 (by omega) W))
  have X8 := hide (fun W => (show Calls Try.prog 33 #[.string s, .int .i64 16] W (Same (.int .u32 ((getH s).yi.toNat : Int)) W) from rword_any s h2 16 (by omega) W))
  have X9 := hide (fun W => (show Calls Try.prog 33 #[.string s, .int .i64 20] W (Same (.int .u32 ((getH s).si.toNat : Int)) W) from rword_any s h2 20 (by omega) W))
  have X10 := hide (fun W => (show Calls Try.prog 33 #[.string s, .int .i64 24] W (Same (.int .u32 ((getH s).gi.toNat : Int)) W) from rword_any s h2 24 (by omega) W))
  clear RW
  generalize hH : getH s = H at *
  have HH := hide hH
  have HP := hide (show H.hard = s.extract 28 44 ∧ H.name = s.extract 44 108 ∧ H.file = s.extract 108 236 by rw [← hH]; exact ⟨rfl, rfl, rfl⟩)
  clear hH
  refine wp_region_relT 16 1 (RD w w.heap.size) [some 22, some 23, some 24, some 25, some 26, some 27, some 28, some 29, some 30, some 31, some 32, some 33, some 34, some 35, some 36, some 4] [fun yy _ => yy = .string s, fun yy _ => yy = .int .u8 (H.op.toNat : Int), fun yy _ => yy = .string s, fun yy _ => yy = .int .u8 (H.ht.toNat : Int), fun yy _ => yy = .string s, fun yy _ => yy = .int .u8 (H.hl.toNat : Int), fun yy _ => yy = .string s, fun yy _ => yy = .int .u8 (H.ho.toNat : Int), fun yy _ => yy = .string s, fun yy _ => yy = .string (s.extract 28 44), fun yy _ => yy = .string s, fun yy _ => yy = .string (s.extract 44 108), fun yy _ => yy = .string s, fun yy _ => yy = .string (s.extract 108 236), fun yy _ => yy = MV ⟨H.op, H.ht, H.hl, H.ho, 0, 0, 0, 0, 0, 0, 0, s.extract 28 44, s.extract 44 108, s.extract 108 236⟩ (.slice none 0 0), fun yy W => ∃ b, yy = .pointer (some ⟨b, 0, none⟩) ∧ w.heap.size < b ∧ BoxM b zeroH (.slice none 0 0) W] 144 (by kernel_rfl) rfl (by omega) (by kernel_rfl) (by kernel_rfl) rfl rfl (HD0.out.step (below_drew _)) ?_ ?_
  · refine ⟨⟨fun _ _ _ h _ => h, fun a' W K hC hd hf hK => ?_⟩, ⟨fun _ _ _ h _ => h, fun a' W K hC hd hf hK => ?_⟩, ⟨fun _ _ _ h _ => h, fun a' W K hC hd hf hK => ?_⟩, ⟨fun _ _ _ h _ => h, fun a' W K hC hd hf hK => ?_⟩, ⟨fun _ _ _ h _ => h, fun a' W K hC hd hf hK => ?_⟩, ⟨fun _ _ _ h _ => h, fun a' W K hC hd hf hK => ?_⟩, ⟨fun _ _ _ h _ => h, fun a' W K hC hd hf hK => ?_⟩, ⟨fun _ _ _ h _ => h, fun a' W K hC hd hf hK => ?_⟩, ⟨fun _ _ _ h _ => h, fun a' W K hC hd hf hK => ?_⟩, ⟨fun _ _ _ h _ => h, fun a' W K hC hd hf hK => ?_⟩, ⟨fun _ _ _ h _ => h, fun a' W K hC hd hf hK => ?_⟩, ⟨fun _ _ _ h _ => h, fun a' W K hC hd hf hK => ?_⟩, ⟨fun _ _ _ h _ => h, fun a' W K hC hd hf hK => ?_⟩, ⟨fun _ _ _ h _ => h, fun a' W K hC hd hf hK => ?_⟩, ⟨fun _ _ _ h _ => h, fun a' W K hC hd hf hK => ?_⟩, ⟨fun _ _ _ ⟨b, h0, h1, h2⟩ hb => ⟨b, h0, h1, h2.step hb⟩, fun a' W K hC hd hf hK => ?_⟩, trivial⟩
    · refine op_plain rfl ?_
      have f0 : a'.tmps[0]?.getD undef = .string s := (hf.out 0 (by kernel_rfl)).trans (by simp)
      go_simp
      exact hK.out _ _ hC (Below.refl _ _) rfl
    · refine op_plain rfl ?_
      have d22 : a'.tmps[22]?.getD undef = .string s := hd.out 0 22 (by kernel_rfl) rfl
      go_simp
      exact hK.out _ _ hC (Below.refl _ _) rfl
    · refine op_plain rfl ?_
      have f0 : a'.tmps[0]?.getD undef = .string s := (hf.out 0 (by kernel_rfl)).trans (by simp)
      go_simp
      exact hK.out _ _ hC (Below.refl _ _) rfl
    · refine op_plain rfl ?_
      have d24 : a'.tmps[24]?.getD undef = .string s := hd.out 2 24 (by kernel_rfl) rfl
      go_simp
      exact hK.out _ _ hC (Below.refl _ _) rfl
    · refine op_plain rfl ?_
      have f0 : a'.tmps[0]?.getD undef = .string s := (hf.out 0 (by kernel_rfl)).trans (by simp)
      go_simp
      exact hK.out _ _ hC (Below.refl _ _) rfl
    · refine op_plain rfl ?_
      have d26 : a'.tmps[26]?.getD undef = .string s := hd.out 4 26 (by kernel_rfl) rfl
      go_simp
      exact hK.out _ _ hC (Below.refl _ _) rfl
    · refine op_plain rfl ?_
      have f0 : a'.tmps[0]?.getD undef = .string s := (hf.out 0 (by kernel_rfl)).trans (by simp)
      go_simp
      exact hK.out _ _ hC (Below.refl _ _) rfl
    · refine op_plain rfl ?_
      have d28 : a'.tmps[28]?.getD undef = .string s := hd.out 6 28 (by kernel_rfl) rfl
      go_simp
      exact hK.out _ _ hC (Below.refl _ _) rfl
    · refine op_plain rfl ?_
      have f0 : a'.tmps[0]?.getD undef = .string s := (hf.out 0 (by kernel_rfl)).trans (by simp)
      go_simp
      exact hK.out _ _ hC (Below.refl _ _) rfl
    · refine op_plain rfl ?_
      have d30 : a'.tmps[30]?.getD undef = .string s := hd.out 8 30 (by kernel_rfl) rfl
      go_simp
      exact hK.out _ _ hC (Below.refl _ _) rfl
    · refine op_plain rfl ?_
      have f0 : a'.tmps[0]?.getD undef = .string s := (hf.out 0 (by kernel_rfl)).trans (by simp)
      go_simp
      exact hK.out _ _ hC (Below.refl _ _) rfl
    · refine op_plain rfl ?_
      have d32 : a'.tmps[32]?.getD undef = .string s := hd.out 10 32 (by kernel_rfl) rfl
      go_simp
      exact hK.out _ _ hC (Below.refl _ _) rfl
    · refine op_plain rfl ?_
      have f0 : a'.tmps[0]?.getD undef = .string s := (hf.out 0 (by kernel_rfl)).trans (by simp)
      go_simp
      exact hK.out _ _ hC (Below.refl _ _) rfl
    · refine op_plain rfl ?_
      have d34 : a'.tmps[34]?.getD undef = .string s := hd.out 12 34 (by kernel_rfl) rfl
      go_simp
      exact hK.out _ _ hC (Below.refl _ _) rfl
    · refine op_plain rfl ?_
      have d23 : a'.tmps[23]?.getD undef = .int .u8 (H.op.toNat : Int) := hd.out 1 23 (by kernel_rfl) rfl
      have d25 : a'.tmps[25]?.getD undef = .int .u8 (H.ht.toNat : Int) := hd.out 3 25 (by kernel_rfl) rfl
      have d27 : a'.tmps[27]?.getD undef = .int .u8 (H.hl.toNat : Int) := hd.out 5 27 (by kernel_rfl) rfl
      have d29 : a'.tmps[29]?.getD undef = .int .u8 (H.ho.toNat : Int) := hd.out 7 29 (by kernel_rfl) rfl
      have d31 : a'.tmps[31]?.getD undef = .string (s.extract 28 44) := hd.out 9 31 (by kernel_rfl) rfl
      have d33 : a'.tmps[33]?.getD undef = .string (s.extract 44 108) := hd.out 11 33 (by kernel_rfl) rfl
      have d35 : a'.tmps[35]?.getD undef = .string (s.extract 108 236) := hd.out 13 35 (by kernel_rfl) rfl
      go_simp
      exact hK.out _ _ hC (Below.refl _ _) rfl
    · refine op_plain rfl ?_
      go_simp
      exact hK.out _ _ (hC.step (below_alloc W _)) (below_alloc W _) ⟨_, rfl, lt_of_block hC.2.1, box_new W zeroH _⟩
  · intro vs W5 H5 hR
    have q0 : vs 0 = .string s := hR.out 0 (by decide)
    have q1 : vs 1 = .int .u8 (H.op.toNat : Int) := hR.out 1 (by decide)
    have q2 : vs 2 = .string s := hR.out 2 (by decide)
    have q3 : vs 3 = .int .u8 (H.ht.toNat : Int) := hR.out 3 (by decide)
    have q4 : vs 4 = .string s := hR.out 4 (by decide)
    have q5 : vs 5 = .int .u8 (H.hl.toNat : Int) := hR.out 5 (by decide)
    have q6 : vs 6 = .string s := hR.out 6 (by decide)
    have q7 : vs 7 = .int .u8 (H.ho.toNat : Int) := hR.out 7 (by decide)
    have q8 : vs 8 = .string s := hR.out 8 (by decide)
    have q9 : vs 9 = .string (s.extract 28 44) := hR.out 9 (by decide)
    have q10 : vs 10 = .string s := hR.out 10 (by decide)
    have q11 : vs 11 = .string (s.extract 44 108) := hR.out 11 (by decide)
    have q12 : vs 12 = .string s := hR.out 12 (by decide)
    have q13 : vs 13 = .string (s.extract 108 236) := hR.out 13 (by decide)
    have q14 : vs 14 = MV ⟨H.op, H.ht, H.hl, H.ho, 0, 0, 0, 0, 0, 0, 0, s.extract 28 44, s.extract 44 108, s.extract 108 236⟩ (.slice none 0 0) := hR.out 14 (by decide)
    have r15 := hR.out 15 (by decide)
    generalize hq15 : vs 15 = q15 at *
    change (fun yy W => ∃ b, yy = .pointer (some ⟨b, 0, none⟩) ∧ w.heap.size < b ∧ BoxM b zeroH (.slice none 0 0) W) q15 W5 at r15
    simp only [List.drop_succ_cons, List.drop_zero, fillF, Act.put, List.setIfInBounds_toArray, List.set_cons_zero, List.set_cons_succ, Nat.reduceAdd, q0, q1, q2, q3, q4, q5, q6, q7, q8, q9, q10, q11, q12, q13, q14, hq15]
    clear hR q0 q1 q2 q3 q4 q5 q6 q7 q8 q9 q10 q11 q12 q13 q14 hq15
    obtain ⟨b, rfl, hb, gb⟩ := r15
    have HM := hide (show w.heap.size < b ∧ RD w w.heap.size W5 ∧ BoxM b zeroH (.slice none 0 0) W5 from ⟨hb, H5, gb⟩)
    clear hb gb e0 e1 e2 e3 i0 i1 i2 i3 j1 j2 j3 j44 j108 j236
    go_wp2_with (refine wpList_store_box rfl (.tmp 4) (.tmp 36) rfl b _ ⟨H.op, H.ht, H.hl, H.ho, 0, 0, 0, 0, 0, 0, 0, s.extract 28 44, s.extract 44 108, s.extract 108 236⟩ _ (.slice none 0 0) rfl rfl rfl HM.out.2.2 ?_; intro w2 g2 b2 z2; have M2 := hide (show RM w w.heap.size b ⟨H.op, H.ht, H.hl, H.ho, 0, 0, 0, 0, 0, 0, 0, s.extract 28 44, s.extract 44 108, s.extract 108 236⟩ w2 from ⟨⟨HM.out.2.1.1.trans (b2 _ (Nat.le_of_lt HM.out.1)), (z2 _ (Nat.ne_of_lt HM.out.1)).trans HM.out.2.1.2.1, Nat.le_refl _⟩, g2, HM.out.1⟩); clear g2 b2 z2 HM)
    refine (X4.out w2).mono ?_
    rintro e _ ⟨rfl, rfl⟩
    have c4 : w2.cell? ⟨b, 4, none⟩ = some (.int .u32 0) := (M2.out.cell (k := 4) rfl).1
    have f4 := (M2.out.cell (k := 4) rfl).2
    have M3 := hide (show RM w w.heap.size b ⟨H.op, H.ht, H.hl, H.ho, H.xid, 0, 0, 0, 0, 0, 0, s.extract 28 44, s.extract 44 108, s.extract 108 236⟩ (w2.setCell ⟨b, 4, none⟩ (.int .u32 (H.xid.toNat : Int))) from M2.out.put (k := 4) (by decide) (.u32 H.xid) rfl)
    go_wp2_with fail
    generalize w2.setCell ⟨b, 4, none⟩ (.int .u32 (H.xid.toNat : Int)) = w3 at *
    clear c4 f4 M2 X4
    refine wp_region_relT 9 1 (RM w w.heap.size b ⟨H.op, H.ht, H.hl, H.ho, H.xid, 0, 0, 0, 0, 0, 0, s.extract 28 44, s.extract 44 108, s.extract 108 236⟩) [some 40, some 41, some 42, some 43, some 44, some 45, some 46, some 47, some 48] [fun yy _ => yy = .string s, fun yy _ => yy = .int .u8 (B8.toNat : Int), fun yy _ => yy = .int .u16 (B8.toNat : Int), fun yy _ => yy = .int .u16 ((B8.toNat : Int) * 256), fun yy _ => yy = .string s, fun yy _ => yy = .int .u8 (B9.toNat : Int), fun yy _ => yy = .int .u16 (B9.toNat : Int), fun yy _ => yy = .int .u16 (H.secs.toNat : Int), fun yy _ => yy = .pointer (some ⟨b, 5, none⟩)] 144 (by kernel_rfl) rfl (by omega) (by kernel_rfl) (by kernel_rfl) rfl rfl (M3.out.step (below_drew _)) ?_ ?_
    · refine ⟨⟨fun _ _ _ h _ => h, fun a' W K hC hd hf hK => ?_⟩, ⟨fun _ _ _ h _ => h, fun a' W K hC hd hf hK => ?_⟩, ⟨fun _ _ _ h _ => h, fun a' W K hC hd hf hK => ?_⟩, ⟨fun _ _ _ h _ => h, fun a' W K hC hd hf hK => ?_⟩, ⟨fun _ _ _ h _ => h, fun a' W K hC hd hf hK => ?_⟩, ⟨fun _ _ _ h _ => h, fun a' W K hC hd hf hK => ?_⟩, ⟨fun _ _ _ h _ => h, fun a' W K hC hd hf hK => ?_⟩, ⟨fun _ _ _ h _ => h, fun a' W K hC hd hf hK => ?_⟩, ⟨fun _ _ _ h _ => h, fun a' W K hC hd hf hK => ?_⟩, trivial⟩
      · refine op_plain rfl ?_
        have f0 : a'.tmps[0]?.getD undef = .string s := (hf.out 0 (by kernel_rfl)).trans (by simp)
        go_simp
        exact hK.out _ _ hC (Below.refl _ _) rfl
      · refine op_plain rfl ?_
        have d40 : a'.tmps[40]?.getD undef = .string s := hd.out 0 40 (by kernel_rfl) rfl
        go_simp
        exact hK.out _ _ hC (Below.refl _ _) rfl
      · refine op_plain rfl ?_
        have d41 : a'.tmps[41]?.getD undef = .int .u8 (B8.toNat : Int) := hd.out 1 41 (by kernel_rfl) rfl
        go_simp
        exact hK.out _ _ hC (Below.refl _ _) rfl
      · refine op_plain rfl ?_
        have d42 : a'.tmps[42]?.getD undef = .int .u16 (B8.toNat : Int) := hd.out 2 42 (by kernel_rfl) rfl
        go_simp
        exact hK.out _ _ hC (Below.refl _ _) rfl
      · refine op_plain rfl ?_
        have f0 : a'.tmps[0]?.getD undef = .string s := (hf.out 0 (by kernel_rfl)).trans (by simp)
        go_simp
        exact hK.out _ _ hC (Below.refl _ _) rfl
      · refine op_plain rfl ?_
        have d44 : a'.tmps[44]?.getD undef = .string s := hd.out 4 44 (by kernel_rfl) rfl
        go_simp
        exact hK.out _ _ hC (Below.refl _ _) rfl
      · refine op_plain rfl ?_
        have d45 : a'.tmps[45]?.getD undef = .int .u8 (B9.toNat : Int) := hd.out 5 45 (by kernel_rfl) rfl
        go_simp
        exact hK.out _ _ hC (Below.refl _ _) rfl
      · refine op_plain rfl ?_
        have d43 : a'.tmps[43]?.getD undef = .int .u16 ((B8.toNat : Int) * 256) := hd.out 3 43 (by kernel_rfl) rfl
        have d46 : a'.tmps[46]?.getD undef = .int .u16 (B9.toNat : Int) := hd.out 6 46 (by kernel_rfl) rfl
        go_simp
        exact hK.out _ _ hC (Below.refl _ _) rfl
      · refine op_plain rfl ?_
        have f4 : a'.tmps[4]?.getD undef = .pointer (some ⟨b, 0, none⟩) := (hf.out 4 (by kernel_rfl)).trans (by simp)
        go_simp
        exact hK.out _ _ hC (Below.refl _ _) rfl
    · intro vs w4 M4 hR
      have q0 : vs 0 = .string s := hR.out 0 (by decide)
      have q1 : vs 1 = .int .u8 (B8.toNat : Int) := hR.out 1 (by decide)
      have q2 : vs 2 = .int .u16 (B8.toNat : Int) := hR.out 2 (by decide)
      have q3 : vs 3 = .int .u16 ((B8.toNat : Int) * 256) := hR.out 3 (by decide)
      have q4 : vs 4 = .string s := hR.out 4 (by decide)
      have q5 : vs 5 = .int .u8 (B9.toNat : Int) := hR.out 5 (by decide)
      have q6 : vs 6 = .int .u16 (B9.toNat : Int) := hR.out 6 (by decide)
      have q7 : vs 7 = .int .u16 (H.secs.toNat : Int) := hR.out 7 (by decide)
      have q8 : vs 8 = .pointer (some ⟨b, 5, none⟩) := hR.out 8 (by decide)
      simp only [List.drop_succ_cons, List.drop_zero, fillF, Act.put, List.setIfInBounds_toArray, List.set_cons_zero, List.set_cons_succ, Nat.reduceAdd, q0, q1, q2, q3, q4, q5, q6, q7, q8]
      clear hR q0 q1 q2 q3 q4 q5 q6 q7 q8
      have c5 : w4.cell? ⟨b, 5, none⟩ = some (.int .u16 0) := (M4.cell (k := 5) rfl).1
      have f5 := (M4.cell (k := 5) rfl).2
      have M5 := hide (show RM w w.heap.size b ⟨H.op, H.ht, H.hl, H.ho, H.xid, H.secs, 0, 0, 0, 0, 0, s.extract 28 44, s.extract 44 108, s.extract 108 236⟩ (w4.setCell ⟨b, 5, none⟩ (.int .u16 (H.secs.toNat : Int))) from M4.put (k := 5) (by decide) (.u16 H.secs) rfl)
      go_wp2_with fail
      generalize w4.setCell ⟨b, 5, none⟩ (.int .u16 (H.secs.toNat : Int)) = w5 at *
      clear c5 f5 M4
      refine wp_region_relT 9 1 (RM w w.heap.size b ⟨H.op, H.ht, H.hl, H.ho, H.xid, H.secs, 0, 0, 0, 0, 0, s.extract 28 44, s.extract 44 108, s.extract 108 236⟩) [some 49, some 50, some 51, some 52, some 53, some 54, some 55, some 56, some 57] [fun yy _ => yy = .string s, fun yy _ => yy = .int .u8 (B10.toNat : Int), fun yy _ => yy = .int .u16 (B10.toNat : Int), fun yy _ => yy = .int .u16 ((B10.toNat : Int) * 256), fun yy _ => yy = .string s, fun yy _ => yy = .int .u8 (B11.toNat : Int), fun yy _ => yy = .int .u16 (B11.toNat : Int), fun yy _ => yy = .int .u16 (H.flags.toNat : Int), fun yy _ => yy = .pointer (some ⟨b, 6, none⟩)] 144 (by kernel_rfl) rfl (by omega) (by kernel_rfl) (by kernel_rfl) rfl rfl (M5.out.step (below_drew _)) ?_ ?_
      · refine ⟨⟨fun _ _ _ h _ => h, fun a' W K hC hd hf hK => ?_⟩, ⟨fun _ _ _ h _ => h, fun a' W K hC hd hf hK => ?_⟩, ⟨fun _ _ _ h _ => h, fun a' W K hC hd hf hK => ?_⟩, ⟨fun _ _ _ h _ => h, fun a' W K hC hd hf hK => ?_⟩, ⟨fun _ _ _ h _ => h, fun a' W K hC hd hf hK => ?_⟩, ⟨fun _ _ _ h _ => h, fun a' W K hC hd hf hK => ?_⟩, ⟨fun _ _ _ h _ => h, fun a' W K hC hd hf hK => ?_⟩, ⟨fun _ _ _ h _ => h, fun a' W K hC hd hf hK => ?_⟩, ⟨fun _ _ _ h _ => h, fun a' W K hC hd hf hK => ?_⟩, trivial⟩
        · refine op_plain rfl ?_
          have f0 : a'.tmps[0]?.getD undef = .string s := (hf.out 0 (by kernel_rfl)).trans (by simp)
          go_simp
          exact hK.out _ _ hC (Below.refl _ _) rfl
        · refine op_plain rfl ?_
          have d49 : a'.tmps[49]?.getD undef = .string s := hd.out 0 49 (by kernel_rfl) rfl
          go_simp
          exact hK.out _ _ hC (Below.refl _ _) rfl
        · refine op_plain rfl ?_
          have d50 : a'.tmps[50]?.getD undef = .int .u8 (B10.toNat : Int) := hd.out 1 50 (by kernel_rfl) rfl
          go_simp
          exact hK.out _ _ hC (Below.refl _ _) rfl
        · refine op_plain rfl ?_
          have d51 : a'.tmps[51]?.getD undef = .int .u16 (B10.toNat : Int) := hd.out 2 51 (by kernel_rfl) rfl
          go_simp
          exact hK.out _ _ hC (Below.refl _ _) rfl
        · refine op_plain rfl ?_
          have f0 : a'.tmps[0]?.getD undef = .string s := (hf.out 0 (by kernel_rfl)).trans (by simp)
          go_simp
          exact hK.out _ _ hC (Below.refl _ _) rfl
        · refine op_plain rfl ?_
          have d53 : a'.tmps[53]?.getD undef = .string s := hd.out 4 53 (by kernel_rfl) rfl
          go_simp
          exact hK.out _ _ hC (Below.refl _ _) rfl
        · refine op_plain rfl ?_
          have d54 : a'.tmps[54]?.getD undef = .int .u8 (B11.toNat : Int) := hd.out 5 54 (by kernel_rfl) rfl
          go_simp
          exact hK.out _ _ hC (Below.refl _ _) rfl
        · refine op_plain rfl ?_
          have d52 : a'.tmps[52]?.getD undef = .int .u16 ((B10.toNat : Int) * 256) := hd.out 3 52 (by kernel_rfl) rfl
          have d55 : a'.tmps[55]?.getD undef = .int .u16 (B11.toNat : Int) := hd.out 6 55 (by kernel_rfl) rfl
          go_simp
          exact hK.out _ _ hC (Below.refl _ _) rfl
        · refine op_plain rfl ?_
          have f4 : a'.tmps[4]?.getD undef = .pointer (some ⟨b, 0, none⟩) := (hf.out 4 (by kernel_rfl)).trans (by simp)
          go_simp
          exact hK.out _ _ hC (Below.refl _ _) rfl
      · intro vs w6 M6 hR
        have q0 : vs 0 = .string s := hR.out 0 (by decide)
        have q1 : vs 1 = .int .u8 (B10.toNat : Int) := hR.out 1 (by decide)
        have q2 : vs 2 = .int .u16 (B10.toNat : Int) := hR.out 2 (by decide)
        have q3 : vs 3 = .int .u16 ((B10.toNat : Int) * 256) := hR.out 3 (by decide)
        have q4 : vs 4 = .string s := hR.out 4 (by decide)
        have q5 : vs 5 = .int .u8 (B11.toNat : Int) := hR.out 5 (by decide)
        have q6 : vs 6 = .int .u16 (B11.toNat : Int) := hR.out 6 (by decide)
        have q7 : vs 7 = .int .u16 (H.flags.toNat : Int) := hR.out 7 (by decide)
        have q8 : vs 8 = .pointer (some ⟨b, 6, none⟩) := hR.out 8 (by decide)
        simp only [List.drop_succ_cons, List.drop_zero, fillF, Act.put, List.setIfInBounds_toArray, List.set_cons_zero, List.set_cons_succ, Nat.reduceAdd, q0, q1, q2, q3, q4, q5, q6, q7, q8]
        clear hR q0 q1 q2 q3 q4 q5 q6 q7 q8
        have c6 : w6.cell? ⟨b, 6, none⟩ = some (.int .u16 0) := (M6.cell (k := 6) rfl).1
        have f6 := (M6.cell (k := 6) rfl).2
        have M7 := hide (show RM w w.heap.size b ⟨H.op, H.ht, H.hl, H.ho, H.xid, H.secs, H.flags, 0, 0, 0, 0, s.extract 28 44, s.extract 44 108, s.extract 108 236⟩ (w6.setCell ⟨b, 6, none⟩ (.int .u16 (H.flags.toNat : Int))) from M6.put (k := 6) (by decide) (.u16 H.flags) rfl)
        go_wp2_with fail
        generalize w6.setCell ⟨b, 6, none⟩ (.int .u16 (H.flags.toNat : Int)) = w7 at *
        clear c6 f6 M6
        refine (X7.out w7).mono ?_
        rintro e _ ⟨rfl, rfl⟩
        have c7 : w7.cell? ⟨b, 7, none⟩ = some (.int .u32 0) := (M7.out.cell (k := 7) rfl).1
        have f7 := (M7.out.cell (k := 7) rfl).2
        have M8 := hide (show RM w w.heap.size b ⟨H.op, H.ht, H.hl, H.ho, H.xid, H.secs, H.flags, H.ci, 0, 0, 0, s.extract 28 44, s.extract 44 108, s.extract 108 236⟩ (w7.setCell ⟨b, 7, none⟩ (.int .u32 (H.ci.toNat : Int))) from M7.out.put (k := 7) (by decide) (.u32 H.ci) rfl)
        go_wp2_with fail
        generalize w7.setCell ⟨b, 7, none⟩ (.int .u32 (H.ci.toNat : Int)) = w8 at *
        clear c7 f7 M7 X7
        refine (X8.out w8).mono ?_
        rintro e _ ⟨rfl, rfl⟩
        have c8 : w8.cell? ⟨b, 8, none⟩ = some (.int .u32 0) := (M8.out.cell (k := 8) rfl).1
        have f8 := (M8.out.cell (k := 8) rfl).2
        have M9 := hide (show RM w w.heap.size b ⟨H.op, H.ht, H.hl, H.ho, H.xid, H.secs, H.flags, H.ci, H.yi, 0, 0, s.extract 28 44, s.extract 44 108, s.extract 108 236⟩ (w8.setCell ⟨b, 8, none⟩ (.int .u32 (H.yi.toNat : Int))) from M8.out.put (k := 8) (by decide) (.u32 H.yi) rfl)
        go_wp2_with fail
        generalize w8.setCell ⟨b, 8, none⟩ (.int .u32 (H.yi.toNat : Int)) = w9 at *
        clear c8 f8 M8 X8
        refine (X9.out w9).mono ?_
        rintro e _ ⟨rfl, rfl⟩
        have c9 : w9.cell? ⟨b, 9, none⟩ = some (.int .u32 0) := (M9.out.cell (k := 9) rfl).1
        have f9 := (M9.out.cell (k := 9) rfl).2
        have Ma := hide (show RM w w.heap.size b ⟨H.op, H.ht, H.hl, H.ho, H.xid, H.secs, H.flags, H.ci, H.yi, H.si, 0, s.extract 28 44, s.extract 44 108, s.extract 108 236⟩ (w9.setCell ⟨b, 9, none⟩ (.int .u32 (H.si.toNat : Int))) from M9.out.put (k := 9) (by decide) (.u32 H.si) rfl)
        go_wp2_with fail
        generalize w9.setCell ⟨b, 9, none⟩ (.int .u32 (H.si.toNat : Int)) = wa at *
        clear c9 f9 M9 X9
        refine (X10.out wa).mono ?_
        rintro e _ ⟨rfl, rfl⟩
        have c10 : wa.cell? ⟨b, 10, none⟩ = some (.int .u32 0) := (Ma.out.cell (k := 10) rfl).1
        have f10 := (Ma.out.cell (k := 10) rfl).2
        have HE : (⟨H.op, H.ht, H.hl, H.ho, H.xid, H.secs, H.flags, H.ci, H.yi, H.si, H.gi, s.extract 28 44, s.extract 44 108, s.extract 108 236⟩ : Hd) = H := by obtain ⟨p1, p2, p3⟩ := HP.out; rw [← p1, ← p2, ← p3]
        have MB0 := (show RM w w.heap.size b ⟨H.op, H.ht, H.hl, H.ho, H.xid, H.secs, H.flags, H.ci, H.yi, H.si, H.gi, s.extract 28 44, s.extract 44 108, s.extract 108 236⟩ (wa.setCell ⟨b, 10, none⟩ (.int .u32 (H.gi.toNat : Int))) from Ma.out.put (k := 10) (by decide) (.u32 H.gi) rfl)
        rw [HE] at MB0
        have MB := hide MB0
        clear MB0 HE HP
        have SX : (s.extract 240 s.size).size ≤ 65507 := by rw [ByteArray.size_extract]; omega
        obtain ⟨X, hX⟩ : ∃ X, s.extract 240 s.size = X := ⟨_, rfl⟩
        rw [hX] at SL SX AS
        go_upto_region 15 with fail
        generalize wa.setCell ⟨b, 10, none⟩ (.int .u32 (H.gi.toNat : Int)) = wb at *
        clear c10 f10 Ma X10
        have O0 := ownS_one wb X
        have PS := hide (show Calls Try.prog 34 #[.slice (some ⟨wb.heap.size, 0, none⟩) 1 1] (wb.alloc (.cells #[.string X] 9)) (fun e w2 => ∃ v, e = .returned (.tuple #[v, .int .i64 (parseE [lb X] : Nat)]) ∧ Below (wb.alloc (.cells #[.string X] 9)).heap.size (wb.alloc (.cells #[.string X] 9)) w2 ∧ OwnO w2 (wb.alloc (.cells #[.string X] 9)).heap.size v (parseO [lb X])) from rparse_any (ar := [X]) (by simp) (fun x hx => by rw [List.mem_singleton.1 hx]; omega) _ O0.lst)
        have MC := hide (MB.out.step (below_alloc wb (.cells #[.string X] 9)))
        have OC := hide (O0.base MB.out.1.1.size)
        clear O0 MB
        go_wp2_with fail
        refine PS.out.mono ?_
        rintro e wc ⟨vc, rfl, hbc, hoc⟩
        have MD := hide (MC.out.step hbc)
        have OD := hide (OC.out.step hbc)
        have LD := hide (ownO_lst hoc)
        clear hbc hoc MC OC PS
        have Q0 : ((parseE [lb X] : Nat) : Int) = 0 := by rw [SL.out, hp]; rfl
        have FI := hide (rfind_any 52 (l := parseO [lb X]) (by have := parseO_len [lb X]; omega) wc LD.out)
        rw [SL.out] at FI
        clear LD
        rw [hc] at FI
        generalize findD (parseO [(lb s).drop 240]) 52 = d at *
        clear hn hc
        go_wp2_with fail
        refine FI.out.mono ?_
        rintro e wd ⟨rfl, hbd⟩
        have ME := hide (MD.out.step hbd)
        have OE := hide (OD.out.step hbd)
        clear hbd MD OD FI
        have OE2 := hide (show OwnS wd w.heap.size _ (areasB X H 0) from OE.out)
        have ME2 := hide (show RM w w.heap.size b (headN H 0) wd from ME.out)
        clear OE ME
        have AL := hide (areas_lb s H 0 X SL.out)
        have PS2 := hide (rparse_any (ar := areasB X H 0) AS.out.1 AS.out.2 _ OE2.out.lst)
        go_wp2_with fail
        refine PS2.out.mono ?_
        rintro e we ⟨v6, rfl, hb6, ho6⟩
        rw [AL.out] at ho6 ⊢
        have M6 := hide (ME2.out.step hb6)
        have O6 := hide (ownO_lst ho6)
        clear hb6 ho6 PS2 OE2 ME2 AL AS
        by_cases he : parseE (areasL s H 0) = 0
        · have DR := hide (show decR s = (0, headN H 0, kept 52 (parseO (areasL s H 0))) by rw [DR1.out, if_neg (fun e => e he)])
          have Q : ((parseE (areasL s H 0) : Nat) : Int) = 0 := by omega
          have WO := hide (rwithout_any 52 (v := v6) (l := parseO (areasL s H 0)) (by have := parseO_len (areasL s H 0); omega) we O6.out)
          generalize parseO (areasL s H 0) = pl at *
          generalize headN H 0 = hn2 at *
          clear he DR1 O6
          go_wp2_with fail
          refine WO.out.mono ?_
          rintro e w7 ⟨v7, rfl, hb7, ho7⟩
          have M7 := hide (M6.out.step hb7)
          have c14 := M7.out.2.1.at.2.2.2
          have f14 := free_at M7.out.2.1 14
          obtain ⟨p7, c7, rfl, _⟩ := lenO ho7
          have O7 := hide ho7
          generalize (kept 52 pl).length = n7 at *
          have B8 := hide (M7.out.2.1.opts (v2 := .slice p7 n7 c7))
          have R8 := hide (show BoxM w.heap.size zeroH (.slice none 0 0) (w7.setCell ⟨b, 14, none⟩ (.slice p7 n7 c7)) from (set_other (Nat.ne_of_lt M7.out.2.2)).trans M7.out.1.2.1)
          have D8 := hide (show Below w.heap.size w (w7.setCell ⟨b, 14, none⟩ (.slice p7 n7 c7)) from M7.out.1.1.setCell (Nat.le_of_lt M7.out.2.2) _)
          have O8 := hide (own_box O7.out M7.out.2.1 (k := 14) (x := .slice p7 n7 c7))
          have D6S := hide M6.out.1.1.size
          clear hb7 ho7 M6 WO M7 O7
          go_wp2_with (first | refine wpList_load_box rfl (.tmp 4) rfl b hn2 (.slice p7 n7 c7) rfl B8.out ?_ | (refine wpList_store_box rfl (.tmp 2) (.tmp 143) rfl w.heap.size _ hn2 _ (.slice p7 n7 c7) rfl rfl rfl R8.out ?_; intro w9 G9 B9 Z9))
          refine bodyPost_ret (v := .tuple #[MV hn2 (.slice p7 n7 c7), .int .i64 0]) (results_box2 rfl _ _ w.heap.size _ _ rfl rfl G9) rfl ?_
          unfold DecP
          rw [DR.out]
          exact ⟨_, rfl, D8.out.trans (B9 _ (Nat.le_refl _)), ownO_base (own_other O8.out R8.out Z9) D6S.out, rfl⟩
        · have DR := hide (show decR s = (parseE (areasL s H 0), zeroH, []) by rw [DR1.out, if_pos he])
          have Q : ¬ ((parseE (areasL s H 0) : Nat) : Int) = 0 := by omega
          generalize parseE (areasL s H 0) = ne at *
          clear he DR1 O6
          go_wp2_with (refine wpList_store_box rfl (.tmp 2) (.tmp 138) rfl w.heap.size _ zeroH _ (.slice none 0 0) rfl rfl rfl M6.out.1.2.1 ?_; intro w6 G6 B6 _)
          exact bodyPost_ret (v := .tuple #[MV zeroH (.slice none 0 0), .int .i64 (ne : Nat)]) (results_box2 rfl _ _ w.heap.size _ _ rfl rfl G6) rfl (dec_zero DR.out (M6.out.1.1.trans (B6 _ (Nat.le_refl _))))
end Go.Proofs.Ytmoklodaeicpgaa
