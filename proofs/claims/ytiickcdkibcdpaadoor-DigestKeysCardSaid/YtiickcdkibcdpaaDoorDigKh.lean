/-
  The contract of the document's own HMAC, and the law DigestKeys. Conditions: strings take at most 2^47 - 4096 bytes; the packages' variables hold what their texts lay.
-/
import Derived.Test.YtiickcdkibcdpaaDoorDigU
namespace Go.Proofs.YtiickcdkibcdpaaDoor
open Go.RowKit Go.Joins

/-- the key, filled up to 64 bytes -/
def fillL (k : List UInt8) : List UInt8 := k ++ List.replicate (64 - k.length) 0
theorem fill_length {k : List UInt8} (h : k.length ≤ 64) : (fillL k).length = 64 := by unfold fillL; simp; omega
theorem mask_snoc (l : List UInt8) (b : UInt8) {i : Nat} {x : UInt8} (h : (fillL l)[i]? = some x) : ((maskL l b).take i) ++ [x ^^^ b] = (maskL l b).take (i + 1) := by
  have e : (maskL l b)[i]? = some (x ^^^ b) := by
    show ((fillL l).map (· ^^^ b))[i]? = _
    rw [List.getElem?_map, h]; rfl
  rw [List.take_add_one, e]; rfl

/-- two rows of bytes of the call's own -/
def KD (w : World) (B gi ni ci : Nat) (li : List UInt8) (go no co : Nat) (lo : List UInt8) (W : World) : Prop := Below w.heap.size w W ∧ RB B gi ni ci li W ∧ RB B go no co lo W
theorem KD.step {w : World} {B gi ni ci : Nat} {li : List UInt8} {go no co : Nat} {lo : List UInt8} {W w2 : World} (h : KD w B gi ni ci li go no co lo W) (hb : Below W.heap.size W w2) : KD w B gi ni ci li go no co lo w2 :=
  ⟨chain h.1 hb, h.2.1.step hb, h.2.2.step hb⟩
set_option maxRecDepth 100000 in
set_option maxHeartbeats 2000000 in
theorem rhmac_any (key s : ByteArray) (hk : key.size ≤ 140737488353000) (hs : s.size ≤ 140737488353000) (w : World) (hr : RO w) :
    Calls Tryd.prog 14 #[.string key, .string s] w (Gives (St (hmacL key.data.toList s.data.toList)) w) := by
  have MD := hide (fun (t : ByteArray) (ht : t.size ≤ 140737488354000) W (h : Below w.heap.size w W) => rmd5_any t ht W (hr.step h))
  have KL := key_length key.data.toList
  have HM := hide (show hmacL key.data.toList s.data.toList = md5L (maskL (keyL key.data.toList) 92 ++ md5L (maskL (keyL key.data.toList) 54 ++ s.data.toList)) from rfl)
  generalize hmacL key.data.toList s.data.toList = RES at *
  by_cases hlong : 64 < key.size
  · obtain ⟨K, hK⟩ : ∃ K : ByteArray, K = ⟨(md5L key.data.toList).toArray⟩ := ⟨_, rfl⟩
    have MK := hide (show ∀ W, Below w.heap.size w W → Calls Tryd.prog 12 #[.string key] W (Gives (.string K) W) from by rw [hK]; exact MD.out key (by omega))
    have KK : K.data.toList = keyL key.data.toList := by rw [hK]; unfold keyL; exact (if_pos hlong).symm
    have K64 : K.size ≤ 64 := by
      have : K.data.toList.length ≤ 64 := by rw [KK]; exact KL
      exact this
    rw [← KK] at HM
    have h1 : (64 : Int) < (key.size : Int) := by omega
    clear hK KK KL hlong
    go_enter Tryd.func14, Tryd.ntmps14
    go_wp2_with fail
    refine (MK.out _ (Below.refl _ _)).mono ?_
    rintro e w1 ⟨rfl, HB1⟩
    obtain ⟨cap0, w2, CV, R0, B0⟩ := conv_rbytes w1 K
    have LW1 := HB1.size
    have HB2 := HB1.trans (B0.mono LW1)
    clear B0
    generalize w1.heap.size = B1 at *
    go_wp2_with fail
    clear CV
    go_loopw [5] (fun v wr => ∃ (g n cap j : Nat), n ≤ 64 ∧ Hid (n = K.size + j) ∧ v = .slice (some ⟨g, 0, none⟩) n cap ∧ RB B1 g n cap (K.data.toList ++ List.replicate j 0) wr ∧ Below w.heap.size w wr ∧ B1 ≤ wr.heap.size) (fun v _ => 64 - (match v with | .slice _ n _ => n | _ => 0))
    case atStart => exact ⟨_, _, cap0, 0, K64, hide rfl, rfl, by simpa using R0, HB2, Nat.le_of_lt R0.2.1⟩
    case round =>
      clear R0 HB2
      obtain ⟨g, n, cap, j, hn, NK, rfl, R, hb, hz⟩ := hrel
      by_cases hlt : n < 64
      · have RA := R.step (below_alloc wr (.cells #[byteV 0] 5))
        have HB := hb.alloc hb.size (.cells #[byteV 0] 5)
        have c1 : (n : Int) < 64 := by omega
        have c2 : n ≤ 140737488355000 := by omega
        go_wp2_with (at_builtin; refine wpList_push rfl _ _ rfl B1 _ _ _ _ rfl RA 0 ⟨wr.heap.size, 0, none⟩ rfl (one_at wr 0 5) c2 (by first | omega | (simp; done) | (simp; omega)) ?_; intro g2 cap2 w4 R2 _ _ HB2)
        have HB3 := HB.trans (HB2.mono LW1)
        have Z3 : B1 ≤ w4.heap.size := Nat.le_trans (by first | omega | (simp; done) | (simp; omega)) HB2.size
        rw [List.append_assoc, ← List.replicate_succ'] at R2
        clear R RA HB HB2 hb
        go_roundw
        case rel => exact ⟨g2, n + 1, cap2, j + 1, by omega, hide (by have := NK.out; omega), rfl, R2, HB3, Z3⟩
        case measure => simp; omega
      · have c1 : ¬ (n : Int) < 64 := by omega
        have EF := hide (show K.data.toList ++ List.replicate j 0 = fillL K.data.toList by
          have := NK.out
          unfold fillL
          rw [show 64 - K.data.toList.length = j by show 64 - K.size = j; omega])
        rw [EF.out] at R
        have I0 := (rb_empty wr 5).lower hz
        have I1 := I0.step (below_alloc (wr.alloc (.cells #[] 5)) (.cells #[] 5))
        have O1 := (rb_empty (wr.alloc (.cells #[] 5)) 5).lower (Nat.le_trans hz (by simp))
        rw [World.size_alloc] at O1
        have R1 := (R.step (below_alloc wr (.cells #[] 5))).step (below_alloc (wr.alloc (.cells #[] 5)) (.cells #[] 5))
        have HBA := (hb.alloc hb.size (.cells #[] 5)).alloc (by simp; have := hb.size; omega) (.cells #[] 5)
        have LG := R.2.1
        have L0 : wr.heap.size ≠ wr.heap.size + 1 := by omega
        have L1 : wr.heap.size ≠ g := by omega
        have L2 : wr.heap.size + 1 ≠ g := by omega
        have LZ : B1 ≤ ((wr.alloc (.cells #[] 5)).alloc (.cells #[] 5)).heap.size := by simp; omega
        have n64 : n = 64 := by omega
        have FL := hide (fill_length (k := K.data.toList) K64)
        clear I0 NK EF R hb hz LG hlt hn
        go_wp2_with fail
        go_loopw [6, 7, 8] (fun vi vo i wr => ∃ (k gi ni ci go no co : Nat), k ≤ 64 ∧ i = .int .i64 (k : Int) ∧ Hid (ni = k ∧ no = k) ∧ vi = .slice (some ⟨gi, 0, none⟩) ni ci ∧ vo = .slice (some ⟨go, 0, none⟩) no co ∧ RB B1 gi ni ci ((maskL K.data.toList 54).take k) wr ∧ RB B1 go no co ((maskL K.data.toList 92).take k) wr ∧ RB B1 g n cap (fillL K.data.toList) wr ∧ gi ≠ go ∧ gi ≠ g ∧ go ≠ g ∧ Below w.heap.size w wr ∧ B1 ≤ wr.heap.size) (fun _ _ i _ => 64 - (intOf i).toNat)
        case atStart => exact ⟨0, _, 0, 0, _, 0, 0, by omega, rfl, hide ⟨rfl, rfl⟩, rfl, rfl, I1, O1, R1, L0, L1, L2, HBA, LZ⟩
        case round =>
          clear I1 O1 R1 L0 L1 L2 HBA LZ
          obtain ⟨k, gi, ni, ci, go, no, co, hk, rfl, NK, rfl, rfl, RI, RO, RK, n1, n2, n3, hb, hz⟩ := hrel
          by_cases hlt : k < 64
          · have k4 : (k : Int) < 64 := by omega
            have kn : (k : Int) < (n : Int) := by omega
            obtain ⟨x, hx⟩ : ∃ x, (fillL K.data.toList)[k]? = some x := ⟨_, List.getElem?_eq_getElem (by have := FL.out; omega)⟩
            have CX := hide (fun W (h : RB B1 g n cap (fillL K.data.toList) W) => h.at hx)
            have SI := hide (mask_snoc K.data.toList 54 hx)
            have SO := hide (mask_snoc K.data.toList 92 hx)
            have X1 : bits .xor .u8 (x.toNat : Int) 54 = ((x ^^^ 54).toNat : Int) := xor8 x 54
            have X2 : bits .xor .u8 (x.toNat : Int) 92 = ((x ^^^ 92).toNat : Int) := xor8 x 92
            generalize x ^^^ 54 = y1 at *
            generalize x ^^^ 92 = y2 at *
            unfold byteV at CX
            have C0 := CX.out wr RK
            have li : gi < wr.heap.size := RI.2.1
            have lo : go < wr.heap.size := RO.2.1
            have lk : g < wr.heap.size := RK.2.1
            have AI := RI.step (below_alloc wr (.cells #[byteV y1] 5))
            have AO := RO.step (below_alloc wr (.cells #[byteV y1] 5))
            have AK := RK.step (below_alloc wr (.cells #[byteV y1] 5))
            have HA := hb.alloc hb.size (.cells #[byteV y1] 5)
            have c2 : ni ≤ 140737488355000 := by have := NK.out.1; omega
            have c3 : no ≤ 140737488355000 := by have := NK.out.2; omega
            have X2h := hide X2
            have X2h := hide X2
            clear hx RI RO RK hb X2
            go_wp2_with (first
              | (at_builtin; refine wpList_push rfl _ _ rfl B1 _ _ _ _ rfl AI y1 ⟨wr.heap.size, 0, none⟩ rfl (one_at wr y1 5) c2 (by first | omega | (simp; done) | (simp; omega)) ?_; intro gi2 ci2 w4 RI2 GB GI HB2; have AK2 := AK.other GB (by first | omega | (simp; done) | (simp; omega)); have AO2 := AO.other GB (by first | omega | (simp; done) | (simp; omega)); have HA2 := HA.trans (HB2.mono LW1); have S4 : wr.heap.size + 1 ≤ w4.heap.size := (by have := HB2.size; rwa [World.size_alloc] at this); rw [World.size_alloc] at GI; have m1 : gi2 ≠ go := (by omega); have m2 : gi2 ≠ g := (by omega); have li2 : gi2 < w4.heap.size := RI2.2.1; rw [SI.out] at RI2; clear AI AO AK HA HB2 GB GI C0 X1 SI n1 n2; have X2 := X2h.out; have C0 := CX.out w4 AK2; have BI := RI2.step (below_alloc w4 (.cells #[byteV y2] 5)); have BO := AO2.step (below_alloc w4 (.cells #[byteV y2] 5)); have BK := AK2.step (below_alloc w4 (.cells #[byteV y2] 5)); have HC := HA2.alloc HA2.size (.cells #[byteV y2] 5); clear RI2 AO2 AK2 HA2)
              | (at_builtin; refine wpList_push rfl _ _ rfl B1 _ _ _ _ rfl BO y2 ⟨w4.heap.size, 0, none⟩ rfl (one_at w4 y2 5) c3 (by first | omega | (simp; done) | (simp; omega)) ?_; intro go2 co2 w5 RO2 GB GI HB2))
            have BI2 := BI.other GB (by first | omega | (simp; done) | (simp; omega))
            have BK2 := BK.other GB (by first | omega | (simp; done) | (simp; omega))
            have HD := HC.trans (HB2.mono LW1)
            have S5 : w4.heap.size + 1 ≤ w5.heap.size := by have := HB2.size; rwa [World.size_alloc] at this
            rw [World.size_alloc] at GI
            have m3 : gi2 ≠ go2 := by omega
            have m4 : go2 ≠ g := by omega
            rw [SO.out] at RO2
            clear BI BO BK HC HB2 GB GI C0 X2 SO
            go_roundw
            case rel => exact ⟨k + 1, gi2, ni + 1, ci2, go2, no + 1, co2, by omega, by go_num, hide ⟨by have := NK.out.1; omega, by have := NK.out.2; omega⟩, rfl, rfl, BI2, RO2, BK2, m3, m2, m4, HD, by omega⟩
            case measure => simp [intOf] <;> omega
          · have k4 : ¬ (k : Int) < 64 := by omega
            have TI := hide (show (maskL K.data.toList 54).take k = maskL K.data.toList 54 from List.take_of_length_le (by rw [mask_length _ K64]; omega))
            have TO := hide (show (maskL K.data.toList 92).take k = maskL K.data.toList 92 from List.take_of_length_le (by rw [mask_length _ K64]; omega))
            have MI := hide (mask_length (l := K.data.toList) 54 K64)
            have MO := hide (mask_length (l := K.data.toList) 92 K64)
            rw [TI.out] at RI
            rw [TO.out] at RO
            generalize maskL K.data.toList 54 = li at *
            generalize maskL K.data.toList 92 = lo at *
            have DI := hide (fun W h => MD.out (⟨li.toArray⟩ ++ s) (by rw [app_size, MI.out]; omega) W h)
            rw [app_list] at DI
            have LM := md5_length (li ++ s.data.toList)
            generalize md5L (li ++ s.data.toList) = mi at *
            have DO := hide (fun W h => MD.out (⟨lo.toArray⟩ ++ ⟨mi.toArray⟩) (by rw [app_size, MO.out]; show 64 + mi.length ≤ _; omega) W h)
            rw [app_list, show (ByteArray.mk mi.toArray).data.toList = mi from rfl, ← HM.out] at DO
            have N1 : ¬ 9223372036854775807 < li.length + s.size := by rw [MI.out]; omega
            have N2 : ¬ 9223372036854775807 < lo.length + mi.length := by rw [MO.out]; omega
            have P0 : KD w B1 gi ni ci li go no co lo wr.drew := ⟨hb.drew, RI.step (below_drew _), RO.step (below_drew _)⟩
            clear TI TO RI RO MI MO LM RK hb
            go_wp2_with fail
            refine wp_region_quiet (C := KD w B1 gi ni ci li go no co lo) (by kernel_rfl) (by kernel_rfl) P0 (wpQuiet_step (fun K0 hK0 => ?_))
            go_simp
            first | (with_reducible refine hK0 _ (wpQuiet_step (fun K1 hK1 => ?_))) | (with_reducible refine ⟨_, fun _ _ => rfl, hK0 _ (wpQuiet_step (fun K1 hK1 => ?_))⟩) | (rw [if_neg (by intro e; cases e)]; with_reducible refine hK0 _ (wpQuiet_step (fun K1 hK1 => ?_)))
            clear hK0 K0
            go_simp
            refine ⟨St lo, fun W hW => ?_, hK1 _ (wpQuiet_step (fun K0 hK0 => ?_))⟩
            · ((have cv := conv_rb hW.2.2; simp [go_sem, cv]))
            clear hK1 K1
            go_simp
            first | (with_reducible refine hK0 _ (wpQuiet_step (fun K1 hK1 => ?_))) | (with_reducible refine ⟨_, fun _ _ => rfl, hK0 _ (wpQuiet_step (fun K1 hK1 => ?_))⟩) | (rw [if_neg (by intro e; cases e)]; with_reducible refine hK0 _ (wpQuiet_step (fun K1 hK1 => ?_)))
            clear hK0 K0
            go_simp
            refine ⟨St li, fun W hW => ?_, hK1 _ (wpQuiet_step (fun K0 hK0 => ?_))⟩
            · ((have cv := conv_rb hW.2.1; simp [go_sem, cv]))
            clear hK1 K1
            go_simp
            first | (with_reducible refine hK0 _ (wpQuiet_step (fun K1 hK1 => ?_))) | (with_reducible refine ⟨_, fun _ _ => rfl, hK0 _ (wpQuiet_step (fun K1 hK1 => ?_))⟩) | (rw [if_neg (by intro e; cases e)]; with_reducible refine hK0 _ (wpQuiet_step (fun K1 hK1 => ?_)))
            clear hK0 K0
            go_simp
            first | (with_reducible refine hK1 _ (wpQuiet_step (fun K0 hK0 => ?_))) | (with_reducible refine ⟨_, fun _ _ => rfl, hK1 _ (wpQuiet_step (fun K0 hK0 => ?_))⟩) | (rw [if_neg (by intro e; cases e)]; with_reducible refine hK1 _ (wpQuiet_step (fun K0 hK0 => ?_)))
            clear hK1 K1
            go_simp
            refine ⟨St mi, fun W hW => ?_, hK0 _ (wpQuiet_step (fun K1 hK1 => ?_))⟩
            · exact (DI.out W hW.1).mono fun e w4 ⟨he, hb⟩ => ⟨he, KD.step hW hb⟩
            clear hK0 K0
            go_simp
            first | (with_reducible refine hK1 _ (wpQuiet_step (fun K0 hK0 => ?_))) | (with_reducible refine ⟨_, fun _ _ => rfl, hK1 _ (wpQuiet_step (fun K0 hK0 => ?_))⟩) | (rw [if_neg (by intro e; cases e)]; with_reducible refine hK1 _ (wpQuiet_step (fun K0 hK0 => ?_)))
            clear hK1 K1
            go_simp
            refine ⟨St RES, fun W hW => ?_, hK0 _ (wpQuiet_step (fun K1 hK1 => ?_))⟩
            · exact (DO.out W hW.1).mono fun e w4 ⟨he, hb⟩ => ⟨he, KD.step hW hb⟩
            clear hK0 K0
            go_simp
            first | (with_reducible refine hK1 _ (wpQuiet_nil ?_)) | (with_reducible refine ⟨_, fun _ _ => rfl, hK1 _ (wpQuiet_nil ?_)⟩) | (rw [if_neg (by intro e; cases e)]; with_reducible refine hK1 _ (wpQuiet_nil ?_))
            clear hK1 K1
            intro w5 H5
            go_wp2
            go_ret
            exact ⟨rfl, H5.1⟩
  · have K64 : key.size ≤ 64 := by omega
    have KK : keyL key.data.toList = key.data.toList := by unfold keyL; exact if_neg hlong
    rw [KK] at HM
    have h1 : ¬ (64 : Int) < (key.size : Int) := by omega
    clear KK KL hlong
    obtain ⟨cap0, w2, CV, R0, B0⟩ := conv_rbytes w key
    have LW1 := Nat.le_refl w.heap.size
    have HB2 := B0
    clear B0
    go_enter Tryd.func14, Tryd.ntmps14
    go_wp2_with fail
    clear CV
    go_loopw [5] (fun v wr => ∃ (g n cap j : Nat), n ≤ 64 ∧ Hid (n = key.size + j) ∧ v = .slice (some ⟨g, 0, none⟩) n cap ∧ RB w.heap.size g n cap (key.data.toList ++ List.replicate j 0) wr ∧ Below w.heap.size w wr ∧ w.heap.size ≤ wr.heap.size) (fun v _ => 64 - (match v with | .slice _ n _ => n | _ => 0))
    case atStart => exact ⟨_, _, cap0, 0, K64, hide rfl, rfl, by simpa using R0, HB2, Nat.le_of_lt R0.2.1⟩
    case round =>
      clear R0 HB2
      obtain ⟨g, n, cap, j, hn, NK, rfl, R, hb, hz⟩ := hrel
      by_cases hlt : n < 64
      · have RA := R.step (below_alloc wr (.cells #[byteV 0] 5))
        have HB := hb.alloc hb.size (.cells #[byteV 0] 5)
        have c1 : (n : Int) < 64 := by omega
        have c2 : n ≤ 140737488355000 := by omega
        go_wp2_with (at_builtin; refine wpList_push rfl _ _ rfl w.heap.size _ _ _ _ rfl RA 0 ⟨wr.heap.size, 0, none⟩ rfl (one_at wr 0 5) c2 (by first | omega | (simp; done) | (simp; omega)) ?_; intro g2 cap2 w4 R2 _ _ HB2)
        have HB3 := HB.trans (HB2.mono LW1)
        have Z3 : w.heap.size ≤ w4.heap.size := Nat.le_trans (by first | omega | (simp; done) | (simp; omega)) HB2.size
        rw [List.append_assoc, ← List.replicate_succ'] at R2
        clear R RA HB HB2 hb
        go_roundw
        case rel => exact ⟨g2, n + 1, cap2, j + 1, by omega, hide (by have := NK.out; omega), rfl, R2, HB3, Z3⟩
        case measure => simp; omega
      · have c1 : ¬ (n : Int) < 64 := by omega
        have EF := hide (show key.data.toList ++ List.replicate j 0 = fillL key.data.toList by
          have := NK.out
          unfold fillL
          rw [show 64 - key.data.toList.length = j by show 64 - key.size = j; omega])
        rw [EF.out] at R
        have I0 := (rb_empty wr 5).lower hz
        have I1 := I0.step (below_alloc (wr.alloc (.cells #[] 5)) (.cells #[] 5))
        have O1 := (rb_empty (wr.alloc (.cells #[] 5)) 5).lower (Nat.le_trans hz (by simp))
        rw [World.size_alloc] at O1
        have R1 := (R.step (below_alloc wr (.cells #[] 5))).step (below_alloc (wr.alloc (.cells #[] 5)) (.cells #[] 5))
        have HBA := (hb.alloc hb.size (.cells #[] 5)).alloc (by simp; have := hb.size; omega) (.cells #[] 5)
        have LG := R.2.1
        have L0 : wr.heap.size ≠ wr.heap.size + 1 := by omega
        have L1 : wr.heap.size ≠ g := by omega
        have L2 : wr.heap.size + 1 ≠ g := by omega
        have LZ : w.heap.size ≤ ((wr.alloc (.cells #[] 5)).alloc (.cells #[] 5)).heap.size := by simp; omega
        have n64 : n = 64 := by omega
        have FL := hide (fill_length (k := key.data.toList) K64)
        clear I0 NK EF R hb hz LG hlt hn
        go_wp2_with fail
        go_loopw [6, 7, 8] (fun vi vo i wr => ∃ (k gi ni ci go no co : Nat), k ≤ 64 ∧ i = .int .i64 (k : Int) ∧ Hid (ni = k ∧ no = k) ∧ vi = .slice (some ⟨gi, 0, none⟩) ni ci ∧ vo = .slice (some ⟨go, 0, none⟩) no co ∧ RB w.heap.size gi ni ci ((maskL key.data.toList 54).take k) wr ∧ RB w.heap.size go no co ((maskL key.data.toList 92).take k) wr ∧ RB w.heap.size g n cap (fillL key.data.toList) wr ∧ gi ≠ go ∧ gi ≠ g ∧ go ≠ g ∧ Below w.heap.size w wr ∧ w.heap.size ≤ wr.heap.size) (fun _ _ i _ => 64 - (intOf i).toNat)
        case atStart => exact ⟨0, _, 0, 0, _, 0, 0, by omega, rfl, hide ⟨rfl, rfl⟩, rfl, rfl, I1, O1, R1, L0, L1, L2, HBA, LZ⟩
        case round =>
          clear I1 O1 R1 L0 L1 L2 HBA LZ
          obtain ⟨k, gi, ni, ci, go, no, co, hk, rfl, NK, rfl, rfl, RI, RO, RK, n1, n2, n3, hb, hz⟩ := hrel
          by_cases hlt : k < 64
          · have k4 : (k : Int) < 64 := by omega
            have kn : (k : Int) < (n : Int) := by omega
            obtain ⟨x, hx⟩ : ∃ x, (fillL key.data.toList)[k]? = some x := ⟨_, List.getElem?_eq_getElem (by have := FL.out; omega)⟩
            have CX := hide (fun W (h : RB w.heap.size g n cap (fillL key.data.toList) W) => h.at hx)
            have SI := hide (mask_snoc key.data.toList 54 hx)
            have SO := hide (mask_snoc key.data.toList 92 hx)
            have X1 : bits .xor .u8 (x.toNat : Int) 54 = ((x ^^^ 54).toNat : Int) := xor8 x 54
            have X2 : bits .xor .u8 (x.toNat : Int) 92 = ((x ^^^ 92).toNat : Int) := xor8 x 92
            generalize x ^^^ 54 = y1 at *
            generalize x ^^^ 92 = y2 at *
            unfold byteV at CX
            have C0 := CX.out wr RK
            have li : gi < wr.heap.size := RI.2.1
            have lo : go < wr.heap.size := RO.2.1
            have lk : g < wr.heap.size := RK.2.1
            have AI := RI.step (below_alloc wr (.cells #[byteV y1] 5))
            have AO := RO.step (below_alloc wr (.cells #[byteV y1] 5))
            have AK := RK.step (below_alloc wr (.cells #[byteV y1] 5))
            have HA := hb.alloc hb.size (.cells #[byteV y1] 5)
            have c2 : ni ≤ 140737488355000 := by have := NK.out.1; omega
            have c3 : no ≤ 140737488355000 := by have := NK.out.2; omega
            have X2h := hide X2
            have X2h := hide X2
            clear hx RI RO RK hb X2
            go_wp2_with (first
              | (at_builtin; refine wpList_push rfl _ _ rfl w.heap.size _ _ _ _ rfl AI y1 ⟨wr.heap.size, 0, none⟩ rfl (one_at wr y1 5) c2 (by first | omega | (simp; done) | (simp; omega)) ?_; intro gi2 ci2 w4 RI2 GB GI HB2; have AK2 := AK.other GB (by first | omega | (simp; done) | (simp; omega)); have AO2 := AO.other GB (by first | omega | (simp; done) | (simp; omega)); have HA2 := HA.trans (HB2.mono LW1); have S4 : wr.heap.size + 1 ≤ w4.heap.size := (by have := HB2.size; rwa [World.size_alloc] at this); rw [World.size_alloc] at GI; have m1 : gi2 ≠ go := (by omega); have m2 : gi2 ≠ g := (by omega); have li2 : gi2 < w4.heap.size := RI2.2.1; rw [SI.out] at RI2; clear AI AO AK HA HB2 GB GI C0 X1 SI n1 n2; have X2 := X2h.out; have C0 := CX.out w4 AK2; have BI := RI2.step (below_alloc w4 (.cells #[byteV y2] 5)); have BO := AO2.step (below_alloc w4 (.cells #[byteV y2] 5)); have BK := AK2.step (below_alloc w4 (.cells #[byteV y2] 5)); have HC := HA2.alloc HA2.size (.cells #[byteV y2] 5); clear RI2 AO2 AK2 HA2)
              | (at_builtin; refine wpList_push rfl _ _ rfl w.heap.size _ _ _ _ rfl BO y2 ⟨w4.heap.size, 0, none⟩ rfl (one_at w4 y2 5) c3 (by first | omega | (simp; done) | (simp; omega)) ?_; intro go2 co2 w5 RO2 GB GI HB2))
            have BI2 := BI.other GB (by first | omega | (simp; done) | (simp; omega))
            have BK2 := BK.other GB (by first | omega | (simp; done) | (simp; omega))
            have HD := HC.trans (HB2.mono LW1)
            have S5 : w4.heap.size + 1 ≤ w5.heap.size := by have := HB2.size; rwa [World.size_alloc] at this
            rw [World.size_alloc] at GI
            have m3 : gi2 ≠ go2 := by omega
            have m4 : go2 ≠ g := by omega
            rw [SO.out] at RO2
            clear BI BO BK HC HB2 GB GI C0 X2 SO
            go_roundw
            case rel => exact ⟨k + 1, gi2, ni + 1, ci2, go2, no + 1, co2, by omega, by go_num, hide ⟨by have := NK.out.1; omega, by have := NK.out.2; omega⟩, rfl, rfl, BI2, RO2, BK2, m3, m2, m4, HD, by omega⟩
            case measure => simp [intOf] <;> omega
          · have k4 : ¬ (k : Int) < 64 := by omega
            have TI := hide (show (maskL key.data.toList 54).take k = maskL key.data.toList 54 from List.take_of_length_le (by rw [mask_length _ K64]; omega))
            have TO := hide (show (maskL key.data.toList 92).take k = maskL key.data.toList 92 from List.take_of_length_le (by rw [mask_length _ K64]; omega))
            have MI := hide (mask_length (l := key.data.toList) 54 K64)
            have MO := hide (mask_length (l := key.data.toList) 92 K64)
            rw [TI.out] at RI
            rw [TO.out] at RO
            generalize maskL key.data.toList 54 = li at *
            generalize maskL key.data.toList 92 = lo at *
            have DI := hide (fun W h => MD.out (⟨li.toArray⟩ ++ s) (by rw [app_size, MI.out]; omega) W h)
            rw [app_list] at DI
            have LM := md5_length (li ++ s.data.toList)
            generalize md5L (li ++ s.data.toList) = mi at *
            have DO := hide (fun W h => MD.out (⟨lo.toArray⟩ ++ ⟨mi.toArray⟩) (by rw [app_size, MO.out]; show 64 + mi.length ≤ _; omega) W h)
            rw [app_list, show (ByteArray.mk mi.toArray).data.toList = mi from rfl, ← HM.out] at DO
            have N1 : ¬ 9223372036854775807 < li.length + s.size := by rw [MI.out]; omega
            have N2 : ¬ 9223372036854775807 < lo.length + mi.length := by rw [MO.out]; omega
            have P0 : KD w w.heap.size gi ni ci li go no co lo wr.drew := ⟨hb.drew, RI.step (below_drew _), RO.step (below_drew _)⟩
            clear TI TO RI RO MI MO LM RK hb
            go_wp2_with fail
            refine wp_region_quiet (C := KD w w.heap.size gi ni ci li go no co lo) (by kernel_rfl) (by kernel_rfl) P0 (wpQuiet_step (fun K0 hK0 => ?_))
            go_simp
            first | (with_reducible refine hK0 _ (wpQuiet_step (fun K1 hK1 => ?_))) | (with_reducible refine ⟨_, fun _ _ => rfl, hK0 _ (wpQuiet_step (fun K1 hK1 => ?_))⟩) | (rw [if_neg (by intro e; cases e)]; with_reducible refine hK0 _ (wpQuiet_step (fun K1 hK1 => ?_)))
            clear hK0 K0
            go_simp
            refine ⟨St lo, fun W hW => ?_, hK1 _ (wpQuiet_step (fun K0 hK0 => ?_))⟩
            · ((have cv := conv_rb hW.2.2; simp [go_sem, cv]))
            clear hK1 K1
            go_simp
            first | (with_reducible refine hK0 _ (wpQuiet_step (fun K1 hK1 => ?_))) | (with_reducible refine ⟨_, fun _ _ => rfl, hK0 _ (wpQuiet_step (fun K1 hK1 => ?_))⟩) | (rw [if_neg (by intro e; cases e)]; with_reducible refine hK0 _ (wpQuiet_step (fun K1 hK1 => ?_)))
            clear hK0 K0
            go_simp
            refine ⟨St li, fun W hW => ?_, hK1 _ (wpQuiet_step (fun K0 hK0 => ?_))⟩
            · ((have cv := conv_rb hW.2.1; simp [go_sem, cv]))
            clear hK1 K1
            go_simp
            first | (with_reducible refine hK0 _ (wpQuiet_step (fun K1 hK1 => ?_))) | (with_reducible refine ⟨_, fun _ _ => rfl, hK0 _ (wpQuiet_step (fun K1 hK1 => ?_))⟩) | (rw [if_neg (by intro e; cases e)]; with_reducible refine hK0 _ (wpQuiet_step (fun K1 hK1 => ?_)))
            clear hK0 K0
            go_simp
            first | (with_reducible refine hK1 _ (wpQuiet_step (fun K0 hK0 => ?_))) | (with_reducible refine ⟨_, fun _ _ => rfl, hK1 _ (wpQuiet_step (fun K0 hK0 => ?_))⟩) | (rw [if_neg (by intro e; cases e)]; with_reducible refine hK1 _ (wpQuiet_step (fun K0 hK0 => ?_)))
            clear hK1 K1
            go_simp
            refine ⟨St mi, fun W hW => ?_, hK0 _ (wpQuiet_step (fun K1 hK1 => ?_))⟩
            · exact (DI.out W hW.1).mono fun e w4 ⟨he, hb⟩ => ⟨he, KD.step hW hb⟩
            clear hK0 K0
            go_simp
            first | (with_reducible refine hK1 _ (wpQuiet_step (fun K0 hK0 => ?_))) | (with_reducible refine ⟨_, fun _ _ => rfl, hK1 _ (wpQuiet_step (fun K0 hK0 => ?_))⟩) | (rw [if_neg (by intro e; cases e)]; with_reducible refine hK1 _ (wpQuiet_step (fun K0 hK0 => ?_)))
            clear hK1 K1
            go_simp
            refine ⟨St RES, fun W hW => ?_, hK0 _ (wpQuiet_step (fun K1 hK1 => ?_))⟩
            · exact (DO.out W hW.1).mono fun e w4 ⟨he, hb⟩ => ⟨he, KD.step hW hb⟩
            clear hK0 K0
            go_simp
            first | (with_reducible refine hK1 _ (wpQuiet_nil ?_)) | (with_reducible refine ⟨_, fun _ _ => rfl, hK1 _ (wpQuiet_nil ?_)⟩) | (rw [if_neg (by intro e; cases e)]; with_reducible refine hK1 _ (wpQuiet_nil ?_))
            clear hK1 K1
            intro w5 H5
            go_wp2
            go_ret
            exact ⟨rfl, H5.1⟩
end Go.Proofs.YtiickcdkibcdpaaDoor
