/-
  The document's own Encode. Condition: a row of options takes at most 2^47 bytes.
-/
import Derived.Test.YtmoklodaeicpgaaWEn0
import Derived.BigQuiet
import Derived.Lib.Hide
namespace Go.Proofs.Ytmoklodaeicpgaa
open Go.RowKit Go.Joins

/-- the memory of the document's Encode -/
def RE (w : World) (b : Nat) (m : Hd) (v : Value) (W : World) : Prop := Below w.heap.size w W ∧ BoxM b m v W
theorem RE.step {w : World} {b : Nat} {m : Hd} {v : Value} {W W2 : World} (h : RE w b m v W) (hb : Below W.heap.size W W2) : RE w b m v W2 := ⟨chain h.1 hb, h.2.step hb⟩
theorem RE.drew {w : World} {b : Nat} {m : Hd} {v : Value} {W : World} (h : RE w b m v W) : RE w b m v { W with drawn := W.drawn + 1 } := h.step (Below.refl _ _).drew
theorem conv_four (w : World) (x0 x1 x2 x3 : UInt8) : (convert 39 9 (.slice (some ⟨w.heap.size, 0, none⟩) 4 4)).run Try.prog (w.alloc (.cells #[.int .u8 (x0.toNat : Int), .int .u8 (x1.toNat : Int), .int .u8 (x2.toNat : Int), .int .u8 (x3.toNat : Int)] 5)) = .ok (.string (bs [x0, x1, x2, x3])) (w.alloc (.cells #[.int .u8 (x0.toNat : Int), .int .u8 (x1.toNat : Int), .int .u8 (x2.toNat : Int), .int .u8 (x3.toNat : Int)] 5)) := by
  refine conv_back ⟨by simp, fun j b hj => ?_⟩ rfl
  match j, hj with
  | 0, hj => simp at hj; subst hj; simp [go_sem]
  | 1, hj => simp at hj; subst hj; simp [go_sem]
  | 2, hj => simp at hj; subst hj; simp [go_sem]
  | 3, hj => simp at hj; subst hj; simp [go_sem]
  | j + 4, hj => simp at hj
theorem enc_parts (m : Hd) (l : List Opt) : ((((bs [m.op, m.ht, m.hl, m.ho] ++ bs (beL 4 m.xid.toNat) ++ bs (beL 2 m.secs.toNat) ++ bs (beL 2 m.flags.toNat)) ++ bs (beL 4 m.ci.toNat) ++ bs (beL 4 m.yi.toNat) ++ bs (beL 4 m.si.toNat) ++ bs (beL 4 m.gi.toNat)) ++ m.hard ++ m.name ++ m.file ++ ⟨#[99, 130, 83, 99]⟩) ++ bs (emitS l)) = bs (encL (m, l)) := by
  rw [← bs_lb m.hard, ← bs_lb m.name, ← bs_lb m.file, show (⟨#[99, 130, 83, 99]⟩ : ByteArray) = bs cookieL from rfl]
  simp only [cat_bs]
  congr 1
  unfold encL bytesF Hd.fs
  simp [Fv.bytes]
theorem be_size (k x : Nat) : (bs (beL k x)).size = k := by rw [bs_size, beL_length]
set_option maxRecDepth 100000 in
set_option maxHeartbeats 4000000 in
theorem rencode_any (m : Hd) {v : Value} {l : List Opt} (hl : l.length * 24 ≤ 140737488355328) (w : World) (hv : LstO v l w) :
    Calls Try.prog 13 #[MV m v] w (EncP (m, l) w) := by
  have B0 := hide (box_new w m v)
  have SD := hide (fun W (h : LstO v l W) => rsound_any m hl W h)
  have HV := hide (fun W (H : Below w.heap.size w W) => hv.step H)
  have HB := hide (below_alloc w (.cells (cellsM m v) 26))
  clear hv
  rcases enc_cases (m, l) with ⟨hs, he, ht⟩ | hgood
  · rw [hs] at SD
    have HE := hide he
    have HT := hide ht
    clear hs he ht
    go_enter Try.func13, Try.ntmps13
    go_wp2_with (refine wpList_load_box rfl (.tmp 1) rfl w.heap.size m v rfl B0.out ?_)
    refine (SD.out _ (HV.out _ HB.out)).mono ?_
    rintro e w2 ⟨rfl, hb2⟩
    have D2 := hide (HB.out.trans (hb2.mono HB.out.size))
    clear hb2
    go_wp2
    go_ret2
    exact ⟨congrArg Ending.returned (tup2 (by rw [HT.out]; rfl) (by rw [HE.out]; rfl)), D2.out⟩
  · have hs : soundM (m, l) = true := by rcases hgood with h | h <;> exact h.1
    rw [hs] at SD
    have HG := hide (show (65507 < (encL (m, l)).length ∧ encE (m, l) = 6 ∧ encS (m, l) = []) ∨ (¬ 65507 < (encL (m, l)).length ∧ encE (m, l) = 0 ∧ encS (m, l) = encL (m, l)) by rcases hgood with h | h; exact Or.inl h.2; exact Or.inr h.2)
    have hh : soundH m = true := by unfold soundM at hs; simp only [Bool.and_eq_true] at hs; exact hs.1.1
    unfold soundH at hh
    rw [decide_eq_true_eq] at hh
    obtain ⟨s11, s12, s13⟩ := hh
    have EM := hide (fun W (h : LstO v l W) => remit_any (v := v) (l := l) (by omega) W h)
    have EP := hide (enc_parts m l)
    have zl : (bs (emitS l)).size ≤ 1048833 := by rw [bs_size]; exact emitS_len l
    have P4 := hide (fun (x : UInt32) W => (show Calls Try.prog 27 #[.int .u32 (x.toNat : Int)] W (Gives (.string (bs (beL 4 x.toNat))) W) from put32_ref x.toNat x.toNat_lt W))
    have P2 := hide (fun (x : UInt16) W => (show Calls Try.prog 28 #[.int .u16 (x.toNat : Int)] W (Gives (.string (bs (beL 2 x.toNat))) W) from put16_ref x.toNat x.toNat_lt W))
    clear hs hgood
    go_enter Try.func13, Try.ntmps13
    go_wp2_with (refine wpList_load_box rfl (.tmp 1) rfl w.heap.size m v rfl B0.out ?_)
    refine (SD.out _ (HV.out _ HB.out)).mono ?_
    rintro e w2 ⟨rfl, hb2⟩
    have D2 := hide (HB.out.trans (hb2.mono HB.out.size))
    have B2 := hide (B0.out.step hb2)
    have c14 := B2.out.at.2.2.2
    clear hb2 SD B0 HB
    go_wp2_with fail
    refine (EM.out _ (HV.out _ D2.out)).mono ?_
    rintro e w3 ⟨rfl, hb3⟩
    have D3 := hide (D2.out.trans (hb3.mono D2.out.size))
    have B3 := hide (B2.out.step hb3)
    obtain ⟨d0, d1, d2, d3, d4, d5, d6, d7, d8, d9, d10, d11, d12, d13, d14⟩ := B3.out.cells
    have C4 := conv_four w3 m.op m.ht m.hl m.ho
    have HR := hide (show RE w w.heap.size m v (w3.alloc (.cells #[.int .u8 (m.op.toNat : Int), .int .u8 (m.ht.toNat : Int), .int .u8 (m.hl.toNat : Int), .int .u8 (m.ho.toNat : Int)] 5)) from RE.step (W := w3) ⟨D3.out, B3.out⟩ (below_alloc _ _))
    have k0 : (bs [m.op, m.ht, m.hl, m.ho]).size = 4 := rfl
    generalize bs [m.op, m.ht, m.hl, m.ho] = s0 at *
    have k1 := be_size 4 m.xid.toNat
    have k2 := be_size 2 m.secs.toNat
    have k3 := be_size 2 m.flags.toNat
    have k4 := be_size 4 m.ci.toNat
    have k5 := be_size 4 m.yi.toNat
    have k6 := be_size 4 m.si.toNat
    have k7 := be_size 4 m.gi.toNat
    have q1 := hide (P4.out m.xid)
    have q2 := hide (P2.out m.secs)
    have q3 := hide (P2.out m.flags)
    have q4 := hide (P4.out m.ci)
    have q5 := hide (P4.out m.yi)
    have q6 := hide (P4.out m.si)
    have q7 := hide (P4.out m.gi)
    clear P4 P2
    generalize bs (beL 4 m.xid.toNat) = x1 at *
    generalize bs (beL 2 m.secs.toNat) = x2 at *
    generalize bs (beL 2 m.flags.toNat) = x3 at *
    generalize bs (beL 4 m.ci.toNat) = x4 at *
    generalize bs (beL 4 m.yi.toNat) = x5 at *
    generalize bs (beL 4 m.si.toNat) = x6 at *
    generalize bs (beL 4 m.gi.toNat) = x7 at *
    generalize bs (emitS l) = z at *
    clear hb3 c14 EM B2 D2 B3 D3 HV
    go_wp2_with fail
    clear d0 d1 d2 d3 d4 d5 d6 d7 d8 d9 d10 d11 d12 d13 d14 C4
    refine wp_region_quiet (C := RE w w.heap.size m v) (by kernel_rfl) (by kernel_rfl) HR.out.drew (wpQuiet_step (fun K0 hK0 => ?_))
    go_simp
    first | (with_reducible refine hK0 _ (wpQuiet_step (fun K1 hK1 => ?_))) | (with_reducible refine ⟨_, fun _ _ => rfl, hK0 _ (wpQuiet_step (fun K1 hK1 => ?_))⟩) | (rw [if_neg (by intro e; cases e)]; with_reducible refine hK0 _ (wpQuiet_step (fun K1 hK1 => ?_)))
    clear hK0 K0
    go_simp
    first | (with_reducible refine hK1 _ (wpQuiet_step (fun K0 hK0 => ?_))) | (with_reducible refine ⟨_, fun _ _ => rfl, hK1 _ (wpQuiet_step (fun K0 hK0 => ?_))⟩) | (rw [if_neg (by intro e; cases e)]; with_reducible refine hK1 _ (wpQuiet_step (fun K0 hK0 => ?_)))
    clear hK1 K1
    go_simp
    refine ⟨.int .u32 (m.xid.toNat : Int), fun W hW => ?_, hK0 _ (wpQuiet_step (fun K1 hK1 => ?_))⟩
    · ((have c := hW.2.all 4; simp at c; simp [go_sem, c]))
    clear hK0 K0
    go_simp
    refine ⟨.string x1, fun W hW => ?_, hK1 _ (wpQuiet_step (fun K0 hK0 => ?_))⟩
    · exact (q1.out W).mono fun e w2 ⟨he, hb⟩ => ⟨he, RE.step hW hb⟩
    clear hK1 K1
    go_simp
    first | (with_reducible refine hK0 _ (wpQuiet_step (fun K1 hK1 => ?_))) | (with_reducible refine ⟨_, fun _ _ => rfl, hK0 _ (wpQuiet_step (fun K1 hK1 => ?_))⟩) | (rw [if_neg (by intro e; cases e)]; with_reducible refine hK0 _ (wpQuiet_step (fun K1 hK1 => ?_)))
    clear hK0 K0
    go_simp
    first | (with_reducible refine hK1 _ (wpQuiet_step (fun K0 hK0 => ?_))) | (with_reducible refine ⟨_, fun _ _ => rfl, hK1 _ (wpQuiet_step (fun K0 hK0 => ?_))⟩) | (rw [if_neg (by intro e; cases e)]; with_reducible refine hK1 _ (wpQuiet_step (fun K0 hK0 => ?_)))
    clear hK1 K1
    go_simp
    refine ⟨.int .u16 (m.secs.toNat : Int), fun W hW => ?_, hK0 _ (wpQuiet_step (fun K1 hK1 => ?_))⟩
    · ((have c := hW.2.all 5; simp at c; simp [go_sem, c]))
    clear hK0 K0
    go_simp
    refine ⟨.string x2, fun W hW => ?_, hK1 _ (wpQuiet_step (fun K0 hK0 => ?_))⟩
    · exact (q2.out W).mono fun e w2 ⟨he, hb⟩ => ⟨he, RE.step hW hb⟩
    clear hK1 K1
    go_simp
    first | (with_reducible refine hK0 _ (wpQuiet_step (fun K1 hK1 => ?_))) | (with_reducible refine ⟨_, fun _ _ => rfl, hK0 _ (wpQuiet_step (fun K1 hK1 => ?_))⟩) | (rw [if_neg (by intro e; cases e)]; with_reducible refine hK0 _ (wpQuiet_step (fun K1 hK1 => ?_)))
    clear hK0 K0
    go_simp
    first | (with_reducible refine hK1 _ (wpQuiet_step (fun K0 hK0 => ?_))) | (with_reducible refine ⟨_, fun _ _ => rfl, hK1 _ (wpQuiet_step (fun K0 hK0 => ?_))⟩) | (rw [if_neg (by intro e; cases e)]; with_reducible refine hK1 _ (wpQuiet_step (fun K0 hK0 => ?_)))
    clear hK1 K1
    go_simp
    refine ⟨.int .u16 (m.flags.toNat : Int), fun W hW => ?_, hK0 _ (wpQuiet_step (fun K1 hK1 => ?_))⟩
    · ((have c := hW.2.all 6; simp at c; simp [go_sem, c]))
    clear hK0 K0
    go_simp
    refine ⟨.string x3, fun W hW => ?_, hK1 _ (wpQuiet_step (fun K0 hK0 => ?_))⟩
    · exact (q3.out W).mono fun e w2 ⟨he, hb⟩ => ⟨he, RE.step hW hb⟩
    clear hK1 K1
    go_simp
    first | (with_reducible refine hK0 _ (wpQuiet_step (fun K1 hK1 => ?_))) | (with_reducible refine ⟨_, fun _ _ => rfl, hK0 _ (wpQuiet_step (fun K1 hK1 => ?_))⟩) | (rw [if_neg (by intro e; cases e)]; with_reducible refine hK0 _ (wpQuiet_step (fun K1 hK1 => ?_)))
    clear hK0 K0
    go_simp
    first | (with_reducible refine hK1 _ (wpQuiet_nil ?_)) | (with_reducible refine ⟨_, fun _ _ => rfl, hK1 _ (wpQuiet_nil ?_)⟩) | (rw [if_neg (by intro e; cases e)]; with_reducible refine hK1 _ (wpQuiet_nil ?_))
    clear hK1 K1
    intro w5 Hw5
    have ka : (s0 ++ x1 ++ x2 ++ x3).size = 12 := by simp only [ByteArray.size_append, k0, k1, k2, k3]
    generalize hy1 : s0 ++ x1 ++ x2 ++ x3 = y1 at *
    go_wp2_with fail
    refine wp_region_quiet (C := RE w w.heap.size m v) (by kernel_rfl) (by kernel_rfl) Hw5.drew (wpQuiet_step (fun K0 hK0 => ?_))
    go_simp
    first | (with_reducible refine hK0 _ (wpQuiet_step (fun K1 hK1 => ?_))) | (with_reducible refine ⟨_, fun _ _ => rfl, hK0 _ (wpQuiet_step (fun K1 hK1 => ?_))⟩) | (rw [if_neg (by intro e; cases e)]; with_reducible refine hK0 _ (wpQuiet_step (fun K1 hK1 => ?_)))
    clear hK0 K0
    go_simp
    first | (with_reducible refine hK1 _ (wpQuiet_step (fun K0 hK0 => ?_))) | (with_reducible refine ⟨_, fun _ _ => rfl, hK1 _ (wpQuiet_step (fun K0 hK0 => ?_))⟩) | (rw [if_neg (by intro e; cases e)]; with_reducible refine hK1 _ (wpQuiet_step (fun K0 hK0 => ?_)))
    clear hK1 K1
    go_simp
    refine ⟨.int .u32 (m.ci.toNat : Int), fun W hW => ?_, hK0 _ (wpQuiet_step (fun K1 hK1 => ?_))⟩
    · ((have c := hW.2.all 7; simp at c; simp [go_sem, c]))
    clear hK0 K0
    go_simp
    refine ⟨.string x4, fun W hW => ?_, hK1 _ (wpQuiet_step (fun K0 hK0 => ?_))⟩
    · exact (q4.out W).mono fun e w2 ⟨he, hb⟩ => ⟨he, RE.step hW hb⟩
    clear hK1 K1
    go_simp
    first | (with_reducible refine hK0 _ (wpQuiet_step (fun K1 hK1 => ?_))) | (with_reducible refine ⟨_, fun _ _ => rfl, hK0 _ (wpQuiet_step (fun K1 hK1 => ?_))⟩) | (rw [if_neg (by intro e; cases e)]; with_reducible refine hK0 _ (wpQuiet_step (fun K1 hK1 => ?_)))
    clear hK0 K0
    go_simp
    first | (with_reducible refine hK1 _ (wpQuiet_step (fun K0 hK0 => ?_))) | (with_reducible refine ⟨_, fun _ _ => rfl, hK1 _ (wpQuiet_step (fun K0 hK0 => ?_))⟩) | (rw [if_neg (by intro e; cases e)]; with_reducible refine hK1 _ (wpQuiet_step (fun K0 hK0 => ?_)))
    clear hK1 K1
    go_simp
    refine ⟨.int .u32 (m.yi.toNat : Int), fun W hW => ?_, hK0 _ (wpQuiet_step (fun K1 hK1 => ?_))⟩
    · ((have c := hW.2.all 8; simp at c; simp [go_sem, c]))
    clear hK0 K0
    go_simp
    refine ⟨.string x5, fun W hW => ?_, hK1 _ (wpQuiet_step (fun K0 hK0 => ?_))⟩
    · exact (q5.out W).mono fun e w2 ⟨he, hb⟩ => ⟨he, RE.step hW hb⟩
    clear hK1 K1
    go_simp
    first | (with_reducible refine hK0 _ (wpQuiet_step (fun K1 hK1 => ?_))) | (with_reducible refine ⟨_, fun _ _ => rfl, hK0 _ (wpQuiet_step (fun K1 hK1 => ?_))⟩) | (rw [if_neg (by intro e; cases e)]; with_reducible refine hK0 _ (wpQuiet_step (fun K1 hK1 => ?_)))
    clear hK0 K0
    go_simp
    first | (with_reducible refine hK1 _ (wpQuiet_step (fun K0 hK0 => ?_))) | (with_reducible refine ⟨_, fun _ _ => rfl, hK1 _ (wpQuiet_step (fun K0 hK0 => ?_))⟩) | (rw [if_neg (by intro e; cases e)]; with_reducible refine hK1 _ (wpQuiet_step (fun K0 hK0 => ?_)))
    clear hK1 K1
    go_simp
    refine ⟨.int .u32 (m.si.toNat : Int), fun W hW => ?_, hK0 _ (wpQuiet_step (fun K1 hK1 => ?_))⟩
    · ((have c := hW.2.all 9; simp at c; simp [go_sem, c]))
    clear hK0 K0
    go_simp
    refine ⟨.string x6, fun W hW => ?_, hK1 _ (wpQuiet_step (fun K0 hK0 => ?_))⟩
    · exact (q6.out W).mono fun e w2 ⟨he, hb⟩ => ⟨he, RE.step hW hb⟩
    clear hK1 K1
    go_simp
    first | (with_reducible refine hK0 _ (wpQuiet_step (fun K1 hK1 => ?_))) | (with_reducible refine ⟨_, fun _ _ => rfl, hK0 _ (wpQuiet_step (fun K1 hK1 => ?_))⟩) | (rw [if_neg (by intro e; cases e)]; with_reducible refine hK0 _ (wpQuiet_step (fun K1 hK1 => ?_)))
    clear hK0 K0
    go_simp
    first | (with_reducible refine hK1 _ (wpQuiet_step (fun K0 hK0 => ?_))) | (with_reducible refine ⟨_, fun _ _ => rfl, hK1 _ (wpQuiet_step (fun K0 hK0 => ?_))⟩) | (rw [if_neg (by intro e; cases e)]; with_reducible refine hK1 _ (wpQuiet_step (fun K0 hK0 => ?_)))
    clear hK1 K1
    go_simp
    refine ⟨.int .u32 (m.gi.toNat : Int), fun W hW => ?_, hK0 _ (wpQuiet_step (fun K1 hK1 => ?_))⟩
    · ((have c := hW.2.all 10; simp at c; simp [go_sem, c]))
    clear hK0 K0
    go_simp
    refine ⟨.string x7, fun W hW => ?_, hK1 _ (wpQuiet_step (fun K0 hK0 => ?_))⟩
    · exact (q7.out W).mono fun e w2 ⟨he, hb⟩ => ⟨he, RE.step hW hb⟩
    clear hK1 K1
    go_simp
    first | (with_reducible refine hK0 _ (wpQuiet_step (fun K1 hK1 => ?_))) | (with_reducible refine ⟨_, fun _ _ => rfl, hK0 _ (wpQuiet_step (fun K1 hK1 => ?_))⟩) | (rw [if_neg (by intro e; cases e)]; with_reducible refine hK0 _ (wpQuiet_step (fun K1 hK1 => ?_)))
    clear hK0 K0
    go_simp
    first | (with_reducible refine hK1 _ (wpQuiet_nil ?_)) | (with_reducible refine ⟨_, fun _ _ => rfl, hK1 _ (wpQuiet_nil ?_)⟩) | (rw [if_neg (by intro e; cases e)]; with_reducible refine hK1 _ (wpQuiet_nil ?_))
    clear hK1 K1
    intro w6 Hw6
    have kb : (y1 ++ x4 ++ x5 ++ x6 ++ x7).size = 28 := by simp only [ByteArray.size_append, ka, k4, k5, k6, k7]
    generalize hy2 : y1 ++ x4 ++ x5 ++ x6 ++ x7 = y2 at *
    obtain ⟨d0, d1, d2, d3, d4, d5, d6, d7, d8, d9, d10, d11, d12, d13, d14⟩ := Hw6.2.cells
    have SZ := hide (st_len (encL (m, l)))
    have SB : (y2 ++ m.hard ++ m.name ++ m.file ++ ⟨#[99, 130, 83, 99]⟩ ++ z).size = (encL (m, l)).length := by rw [EP.out, SZ.out]
    have SB2 : (y2 ++ m.hard ++ m.name ++ m.file ++ ⟨#[99, 130, 83, 99]⟩ ++ z).size = 240 + z.size := by
      have c4 : (⟨#[99, 130, 83, 99]⟩ : ByteArray).size = 4 := rfl
      simp only [ByteArray.size_append, kb, s11, s12, s13, c4]
    have HSB := hide (show 240 + z.size = (encL (m, l)).length by rw [← SB2]; exact SB)
    have HEP := hide (show y2 ++ m.hard ++ m.name ++ m.file ++ ⟨#[99, 130, 83, 99]⟩ ++ z = bs (encL (m, l)) from EP.out)
    clear SB SB2 EP
    rcases HG.out with ⟨g1, g2, g3⟩ | ⟨g1, g2, g3⟩
    · have E1 := hide g2
      have E2 := hide g3
      have Q : (65507 : Int) < 240 + (z.size : Int) := by have := HSB.out; omega
      clear g1 g2 g3 HG SZ
      go_wp2
      go_ret2
      exact ⟨congrArg Ending.returned (tup2 (by rw [E2.out]; rfl) (by rw [E1.out]; rfl)), Hw6.1⟩
    · have E1 := hide g2
      have Q : ¬ (65507 : Int) < 240 + (z.size : Int) := by have := HSB.out; omega
      have E2 := hide (congrArg bs g3)
      clear g1 g2 g3 HG SZ
      go_wp2
      go_ret2
      exact ⟨congrArg Ending.returned (tup2 (by rw [E2.out, ← HEP.out]; rfl) (by rw [E1.out]; rfl)), Hw6.1⟩
end Go.Proofs.Ytmoklodaeicpgaa
