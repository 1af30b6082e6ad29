/-
  The law Wire4Overload: options in the fields for names. Condition: a row of options takes at most 2^47 bytes.
-/
import Derived.Test.YtmoklodaeicpgaaWP
import Derived.Test.YtmoklodaeicpgaaWOv0
namespace Go.Proofs.Ytmoklodaeicpgaa
open Go.RowKit Go.Joins

/-- the memory of the law's round: the bytes, the message -/
def OvM (w : World) (b : Nat) (m : Hd) (v : Value) (g : Nat) (T : List UInt8) (W : World) : Prop := Below w.heap.size w W ∧ BoxM b m v W ∧ RowL g T W ∧ g ≠ b ∧ w.heap.size ≤ g
theorem OvM.step {w : World} {b : Nat} {m : Hd} {v : Value} {g : Nat} {T : List UInt8} {W W2 : World} (h : OvM w b m v g T W) (hb : Below W.heap.size W W2) : OvM w b m v g T W2 := ⟨chain h.1 hb, h.2.1.step hb, h.2.2.1.step hb, h.2.2.2⟩
theorem OvM.put {w : World} {b : Nat} {m : Hd} {v : Value} {g : Nat} {T : List UInt8} {W : World} (h : OvM w b m v g T W) {k : Nat} (hk : k < T.length) (x : UInt8) : OvM w b m v g (T.set k x) (W.setCell ⟨g, k, none⟩ (.int .u8 (x.toNat : Int))) :=
  ⟨h.1.setCell (p := ⟨g, k, none⟩) h.2.2.2.2 _, (set_other (Ne.symm h.2.2.2.1)).trans h.2.1, h.2.2.1.put hk x, h.2.2.2⟩
/-- .. and the message that Decode made -/
def OvF (w : World) (m : Hd) (v : Value) (c : Nat) (h : Hd) (vd : Value) (L : List Opt) (W : World) : Prop := Below w.heap.size w W ∧ BoxM w.heap.size m v W ∧ BoxM c h vd W ∧ LstO vd L W
theorem OvF.step {w : World} {m : Hd} {v : Value} {c : Nat} {h : Hd} {vd : Value} {L : List Opt} {W W2 : World} (H : OvF w m v c h vd L W) (hb : Below W.heap.size W W2) : OvF w m v c h vd L W2 := ⟨chain H.1 hb, H.2.1.step hb, H.2.2.1.step hb, H.2.2.2.step hb⟩
/-- the last box -/
def OvG (wg : World) (h : Hd) (v : Value) (W : World) : Prop := Below wg.heap.size wg W ∧ BoxM wg.heap.size h v W
theorem OvG.step {wg : World} {h : Hd} {v : Value} {W W2 : World} (H : OvG wg h v W) (hb : Below W.heap.size W W2) : OvG wg h v W2 := ⟨chain H.1 hb, H.2.step hb⟩
theorem OvG.opts {wg : World} {h : Hd} {v : Value} {W : World} (H : OvG wg h v W) (v2 : Value) : OvG wg h v2 (W.setCell ⟨wg.heap.size, 14, none⟩ v2) := ⟨H.1.setCell (p := ⟨wg.heap.size, 14, none⟩) (Nat.le_refl _) _, H.2.opts⟩
theorem OvG.put {wg : World} {h : Hd} {v : Value} {W : World} (H : OvG wg h v W) {k : Nat} (hk : k < 14) (f : Fv) {h2 : Hd} (e : h.fs.set k f = h2.fs) : OvG wg h2 v (W.setCell ⟨wg.heap.size, k, none⟩ f.val) := by
  refine ⟨H.1.setCell (p := ⟨wg.heap.size, k, none⟩) (Nat.le_refl _) _, ?_⟩
  have := BoxF.set (fs := h.fs) H.2 (k := k) hk f
  rw [e] at this
  exact this
theorem headN1 (m : Hd) : headN m 1 = { m with file := blankH.file } := rfl
theorem headN2 (m : Hd) : headN m 2 = { m with name := blankH.name } := rfl
theorem headN3 (m : Hd) : headN m 3 = { m with file := blankH.file, name := blankH.name } := rfl
theorem parse_one (s : ByteArray) (hs : s.size ≤ 1152921504606846976) (W : World) : Calls Try.prog 19 #[.slice (some ⟨W.heap.size, 0, none⟩) 1 1] (W.alloc (.cells #[.string s] 9)) (fun e w2 => ∃ v, e = .returned (.tuple #[v, .int .i64 (parseE [lb s] : Nat)]) ∧ Below (W.alloc (.cells #[.string s] 9)).heap.size (W.alloc (.cells #[.string s] 9)) w2 ∧ OwnO w2 (W.alloc (.cells #[.string s] 9)).heap.size v (parseO [lb s])) :=
  parse_any (ar := [s]) (by simp) (fun x hx => by rw [List.mem_singleton.1 hx]; exact hs) _ (ownS_one W s).lst
theorem fld12 (h : Hd) (v : Value) (W : World) : (Instr.field 26 (MV h v) 12).run Try.prog W = .ok (.string h.name) W := by kernel_rfl
theorem fld13 (h : Hd) (v : Value) (W : World) : (Instr.field 26 (MV h v) 13).run Try.prog W = .ok (.string h.file) W := by kernel_rfl
theorem emit_split {L : List Opt} (h : emitE L = 0) : (bs (emitS L)).size = (emitB L).length + 1 ∧ (bs (emitS L)).extract 0 (emitB L).length = bs (emitB L) := by
  unfold emitS
  rw [if_pos h]
  refine ⟨by rw [bs_size, List.length_append]; rfl, ?_⟩
  rw [ext_take, List.take_left]
/-- a string's byte -/
theorem bs_at {l : List UInt8} {i : Nat} {x : UInt8} (h : l[i]? = some x) (hi : i < (bs l).size) : (bs l)[i] = x := by
  have : i < l.length := by rw [bs_size] at hi; exact hi
  rw [List.getElem?_eq_getElem this] at h
  exact Option.some.inj h
set_option maxRecDepth 100000 in
set_option maxHeartbeats 16000000 in
theorem over_law (m : Hd) {v v1 v2 : Value} {l F N : List Opt} (hl : l.length * 24 ≤ 140737488355328) (hF : F.length * 24 ≤ 140737488355328) (hN : N.length * 24 ≤ 140737488355328) (w : World) (hv : LstO v l w) (hv1 : LstO v1 F w) (hv2 : LstO v2 N w) :
    Calls Try.prog 6 #[MV m v, v1, v2] w (Gives (.bool true) w) := by
  have B0 := hide (box_new w m v)
  have D0 := hide (below_alloc w (.cells (cellsM m v) 26))
  have HV := hide (fun W (H : Below w.heap.size w W) => hv.step H)
  have HV1 := hide (fun W (H : Below w.heap.size w W) => hv1.step H)
  have HV2 := hide (fun W (H : Below w.heap.size w W) => hv2.step H)
  have AW := hide (fun W => awake_any W)
  have EF := hide (fun W (h : LstO v1 F W) => emit_any (v := v1) (l := F) (by omega) W h)
  have EG := hide (fun W (h : LstO v2 N W) => emit_any (v := v2) (l := N) (by omega) W h)
  have EM := hide (fun W (h : LstO v l W) => emit_any (v := v) (l := l) (by omega) W h)
  have EN := hide (fun W (h : LstO v l W) => encode_any m hl W h)
  have VO := hide (show v.oneCell' = true by obtain ⟨p, c, e⟩ := lstO_len hv; rw [e]; rfl)
  clear hv hv1 hv2
  go_enter Try.func6, Try.ntmps6
  go_wp2_with fail
  refine (AW.out _).mono ?_
  rintro e w1 ⟨rfl, hb1⟩
  have B1 := hide (B0.out.step hb1)
  have D1 := hide (D0.out.trans (hb1.mono D0.out.size))
  clear hb1 B0 D0 AW
  go_wp2_with fail
  refine (EF.out _ (HV1.out _ D1.out)).mono ?_
  rintro e w2 ⟨rfl, hb2⟩
  have B2 := hide (B1.out.step hb2)
  have D2 := hide (D1.out.trans (hb2.mono D1.out.size))
  clear hb2 B1 D1 EF HV1
  go_wp2_with fail
  refine (EG.out _ (HV2.out _ D2.out)).mono ?_
  rintro e w3 ⟨rfl, hb3⟩
  have B3 := hide (B2.out.step hb3)
  have D3 := hide (D2.out.trans (hb3.mono D2.out.size))
  clear hb3 B2 D2 EG HV2
  go_wp2_with (refine wpList_load_box rfl (.tmp 3) rfl w.heap.size m v rfl B3.out ?_)
  refine (EN.out _ (HV.out _ D3.out)).mono ?_
  rintro e w4 ⟨rfl, hb4⟩
  have B4 := hide (B3.out.step hb4)
  have D4 := hide (D3.out.trans (hb4.mono D3.out.size))
  clear hb4 B3 D3 EN
  by_cases c1n : ¬ (emitE F = 0)
  · have c1 := c1n
    clear c1n
    have Q : ¬ ((emitE F : Nat) : Int) = 0 := by omega
    generalize emitE F = n1 at *
    clear c1
    go_wp2
    go_ret
    exact ⟨rfl, D4.out⟩
  have c1 : emitE F = 0 := Classical.not_not.1 c1n
  have Q1 : ((emitE F : Nat) : Int) = 0 := by omega
  by_cases c2n : ¬ (emitE N = 0)
  · have c2 := c2n
    clear c2n
    have Q : ¬ ((emitE N : Nat) : Int) = 0 := by omega
    generalize emitE N = n2 at *
    clear c1 c2
    go_wp2
    go_ret
    exact ⟨rfl, D4.out⟩
  have c2 : emitE N = 0 := Classical.not_not.1 c2n
  have Q2 : ((emitE N : Nat) : Int) = 0 := by omega
  by_cases c3n : ¬ (encE (m, l) = 0)
  · have c3 := c3n
    clear c3n
    have Q : ¬ ((encE (m, l) : Nat) : Int) = 0 := by omega
    generalize encE (m, l) = n3 at *
    clear c1 c2 c3
    go_wp2
    go_ret
    exact ⟨rfl, D4.out⟩
  have c3 : encE (m, l) = 0 := Classical.not_not.1 c3n
  have Q3 : ((encE (m, l) : Nat) : Int) = 0 := by omega
  have z1 : (bs (emitS F)).size = (emitS F).length := bs_size _
  have z2 : (bs (emitS N)).size = (emitS N).length := bs_size _
  have z3 : (bs (encS (m, l))).size = (encS (m, l)).length := bs_size _
  by_cases c4n : ¬ ((emitS F).length ≤ 128)
  · have c4 := c4n
    clear c4n
    have Q : (128 : Int) < (((bs (emitS F)).size : Nat) : Int) := by omega
    generalize bs (emitS F) = fa at *
    clear c1 c2 c3 c4 z1 z2 z3
    go_wp2
    go_ret
    exact ⟨rfl, D4.out⟩
  have c4 : (emitS F).length ≤ 128 := Classical.not_not.1 c4n
  have Q4 : ¬ (128 : Int) < (((bs (emitS F)).size : Nat) : Int) := by omega
  by_cases c5n : ¬ ((emitS N).length ≤ 64)
  · have c5 := c5n
    clear c5n
    have Q : (64 : Int) < (((bs (emitS N)).size : Nat) : Int) := by omega
    generalize bs (emitS F) = fa at *
    generalize bs (emitS N) = na at *
    clear c1 c2 c3 c4 c5 z1 z2 z3
    go_wp2
    go_ret
    exact ⟨rfl, D4.out⟩
  have c5 : (emitS N).length ≤ 64 := Classical.not_not.1 c5n
  have Q5 : ¬ (64 : Int) < (((bs (emitS N)).size : Nat) : Int) := by omega
  by_cases c6n : ¬ ((encS (m, l)).length ≤ 60000)
  · have c6 := c6n
    clear c6n
    have Q : (60000 : Int) < (((bs (encS (m, l))).size : Nat) : Int) := by omega
    generalize bs (emitS F) = fa at *
    generalize bs (emitS N) = na at *
    generalize bs (encS (m, l)) = ss at *
    clear c1 c2 c3 c4 c5 c6 z1 z2 z3
    go_wp2
    go_ret
    exact ⟨rfl, D4.out⟩
  have c6 : (encS (m, l)).length ≤ 60000 := Classical.not_not.1 c6n
  have Q6 : ¬ (60000 : Int) < (((bs (encS (m, l))).size : Nat) : Int) := by omega
  obtain ⟨_, cl, _, _⟩ := encE_zero c3
  obtain ⟨fs, fx⟩ := emit_split c1
  obtain ⟨ns, nx⟩ := emit_split c2
  obtain ⟨ls, lx⟩ := emit_split cl
  have tk := (take_240 c3).2.2
  have OD := hide (fun k h1 h2 => over_dec c3 c1 c2 c4 c5 c6 (k := k) h1 h2)
  have SX := hide (ext_take (encS (m, l)) 240)
  have SL : (240 : Int) ≤ (((bs (encS (m, l))).size : Nat) : Int) := by omega
  have LT : ((encS (m, l)).take 240).length = 240 := by rw [List.length_take]; omega
  have AL : (emitB l).length ≤ 60000 := by
    have : (emitB l).length + 241 = (encS (m, l)).length := by
      obtain ⟨p1, p2, _, _⟩ := encE_zero c3
      have hx : encS (m, l) = encL (m, l) := by unfold encS; rw [if_pos c3]
      rw [hx]
      unfold encL emitS
      rw [if_pos p2, List.length_append, List.length_append, List.length_append, bytesF_size p1]
      show (emitB l).length + 241 = 236 + (4 + ((emitB l).length + 1))
      omega
    omega
  have PA := hide (padN_len c4)
  have PB := hide (padN_len c5)
  have PI := hide (pad_in (L := emitS F) (n := 128) rfl)
  have QI := hide (pad_in (L := emitS N) (n := 64) rfl)
  have c14 := B4.out.at.2.2.2
  generalize hfa : bs (emitS F) = fa at *
  generalize hna : bs (emitS N) = na at *
  generalize hss : bs (encS (m, l)) = ss at *
  clear c1 c2 c3 c4 c5 c6 c1n c2n c3n c4n c5n c6n
  go_wp2_with fail
  refine (EM.out _ (HV.out _ D4.out)).mono ?_
  rintro e w5 ⟨rfl, hb5⟩
  have B5 := hide (B4.out.step hb5)
  have D5 := hide (D4.out.trans (hb5.mono D4.out.size))
  clear hb5 B4 D4 EM c14
  rw [cl]
  generalize hsl : bs (emitS l) = sl at *
  have LSI : (sl.size : Int) - 1 = ((emitB l).length : Int) := by omega
  have LLE : ((emitB l).length : Int) ≤ (sl.size : Int) := by omega
  have az : (bs (emitB l)).size = (emitB l).length := bs_size _
  go_wp2_with fail
  have ay := hide (show bs (emitB l) = bs (emitB l) from rfl)
  generalize haa : bs (emitB l) = aa at *
  generalize (encS (m, l)).take 240 = T0 at *
  generalize padN (emitS F) 128 = PAl at *
  generalize padN (emitS N) 64 = PBl at *
  have PAl1 := hide PI.out.1
  have PAl2 := hide PI.out.2
  have PBl1 := hide QI.out.1
  have PBl2 := hide QI.out.2
  have FB := hide (show (bs (emitB F)).size = (emitB F).length from bs_size _)
  have NB := hide (show (bs (emitB N)).size = (emitB N).length from bs_size _)
  have az1 : aa.size ≤ 60000 := by omega
  obtain ⟨LF, hLF⟩ : ∃ n, n = (emitB F).length := ⟨_, rfl⟩
  obtain ⟨LN, hLN⟩ : ∃ n, n = (emitB N).length := ⟨_, rfl⟩
  rw [← hLF] at fs fx FB
  rw [← hLN] at ns nx NB
  obtain ⟨fb, hfb⟩ : ∃ x, x = bs (emitB F) := ⟨_, rfl⟩
  obtain ⟨nb, hnb⟩ : ∃ x, x = bs (emitB N) := ⟨_, rfl⟩
  rw [← hfb] at fx FB
  rw [← hnb] at nx NB
  have F1 : (fa.size : Int) - 1 = (LF : Int) := by omega
  have F2 : (LF : Int) ≤ (fa.size : Int) := by omega
  have F4 : fb.size ≤ 128 := by have := FB.out; omega
  have G1 : (na.size : Int) - 1 = (LN : Int) := by omega
  have G2 : (LN : Int) ≤ (na.size : Int) := by omega
  have G4 : nb.size ≤ 64 := by have := NB.out; omega
  have LFs : LF ≤ fa.size := by omega
  have LNs : LN ≤ na.size := by omega
  have fx2 : (fa.extract 0 LF).size = fb.size := by rw [fx]
  have nx2 : (na.extract 0 LN).size = nb.size := by rw [nx]
  have NXa : ¬ 9223372036854775807 < aa.size + fb.size := by omega
  have NXc : ¬ 9223372036854775807 < aa.size + LF := by have := FB.out; omega
  have NXd : ¬ 9223372036854775807 < aa.size + min LF fa.size := by have := FB.out; omega
  have GNs : LN ≤ 64 := by have := NB.out; omega
  have HAA := hide haa
  have HFB := hide hfb
  have HNB := hide hnb
  have T0L := hide LT
  clear LSI LLE ls lx hsl Q1 Q2 Q3 Q4 Q5 Q6 tk z1 z2 z3 ay fs ns FB NB hLF hLN hfb hnb haa PI QI LT az AL hfa hna hss
  go_loopw [15] (fun v15 wr => ∃ k : Nat, 1 ≤ k ∧ k ≤ 4 ∧ v15 = .int .i64 (k : Nat) ∧ Below w.heap.size w wr ∧ BoxM w.heap.size m v wr) (fun v15 _ => 4 - (intOf v15).toNat)
  case atStart => exact ⟨1, Nat.le_refl _, by omega, rfl, D5.out, B5.out⟩
  case round =>
    obtain ⟨k, hk1, hk4, rfl, HD, HB⟩ := hrel
    clear D5 B5
    have HD2 := hide HD
    have HB2 := hide HB
    clear HD HB
    by_cases hk3 : k ≤ 3
    · have K3 : (k : Int) ≤ 3 := by omega
      obtain ⟨cap, w6, CV, R6, B6, hcap⟩ := conv_bytes wr (ss.extract 0 240)
      have XS : (ss.extract 0 240).size = 240 := by rw [SX.out, bs_size, T0L.out]
      rw [XS] at CV hcap
      rw [SX.out, lb_bs] at R6
      have hg : w.heap.size < wr.heap.size := lt_of_block HB2.out
      have M6 := hide (show OvM w w.heap.size m v wr.heap.size T0 w6 from ⟨HD2.out.trans (B6.mono HD2.out.size), HB2.out.step B6, R6, Nat.ne_of_gt hg, Nat.le_of_lt hg⟩)
      generalize hgg : wr.heap.size = g at *
      have KB : ((UInt8.ofNat k).toNat : Int) = (k : Int) := by
        have : (UInt8.ofNat k).toNat = k := by rw [UInt8.toNat_ofNat']; omega
        rw [this]
      have K256 : (k : Int) % 256 = (k : Int) := by omega
      have OK1 := hide (OD.out k hk1 hk3)
      have cb1 : (⟨[UInt8.ofNat k].toArray⟩ : ByteArray).size = 1 := rfl
      have C6 := conv_one w6 (UInt8.ofNat k)
      rw [KB] at C6
      have M7 := hide (M6.out.step (below_alloc w6 (.cells #[.int .u8 (k : Int)] 5)))
      clear R6 B6 M6 hg
      obtain ⟨ks, hks⟩ : ∃ ks : ByteArray, ks = ⟨[UInt8.ofNat k].toArray⟩ := ⟨_, rfl⟩
      rw [← hks] at cb1
      have C6 : (convert 39 9 (.slice (some ⟨w6.heap.size, 0, none⟩) 1 1)).run Try.prog (w6.alloc (.cells #[.int .u8 (k : Int)] 5)) = .ok (.string ks) (w6.alloc (.cells #[.int .u8 (k : Int)] 5)) := by rw [hks]; exact C6
      have HKS := hide hks
      clear hks
      clear KB
      generalize hkb : UInt8.ofNat k = kb at *
      have HKB := hide hkb
      clear hkb
      go_upto_if 97 with fail
      generalize hw7 : w6.alloc (.cells #[.int .u8 (k : Int)] 5) = w7 at *
      clear C6 CV hw7 hgg hcap XS
      have M7L := T0L
      go_cut [17] (fun s17 wx => s17 = .string (bs (W1 l F k)) ∧ OvM w w.heap.size m v g (T1 T0 k PAl) wx)
      case first =>
        rcases k_cases hk1 hk3 with rfl | rfl | rfl
        · clear OK1
          go_wp2_with fail
          go_loopw [19] (fun vi wr => ∃ i : Nat, i ≤ 128 ∧ vi = .int .i64 (i : Nat) ∧ OvM w w.heap.size m v g (spl T0 108 (PAl.take i)) wr) (fun vi _ => 128 - (intOf vi).toNat)
          case atStart => exact ⟨0, Nat.zero_le _, rfl, by rw [List.take_zero, spl_nil]; exact M7.out⟩
          case round =>
            obtain ⟨i, hi, rfl, HM⟩ := hrel
            have HM2 := hide HM
            clear HM
            by_cases hlt : i < 128
            · have SLn := hide (show (spl T0 108 (PAl.take i)).length = 240 by rw [spl_len (by rw [List.length_take]; have := PA.out; have := M7L.out; omega)]; exact M7L.out)
              have KI : (108 : Int) + (i : Int) = ((108 + i : Nat) : Int) := by omega
              have KL : ((108 + i : Nat) : Int) < 240 := by omega
              have SET := hide (fun x (hx : PAl[i]? = some x) => spl_set (L := T0) (o := 108) (by have := PA.out; have := M7L.out; omega) hx)
              have hki : 108 + i < (spl T0 108 (PAl.take i)).length := by rw [SLn.out]; omega
              obtain ⟨y0, k0a, k0b⟩ := HM2.out.2.2.1.some hki
              have N1 := hide (show OvM w w.heap.size m v g ((spl T0 108 (PAl.take i)).set (108 + i) 0) (wr.setCell ⟨g, 108 + i, none⟩ (.int .u8 0)) from HM2.out.put hki 0)
              have hki2 : 108 + i < ((spl T0 108 (PAl.take i)).set (108 + i) 0).length := by rw [List.length_set]; exact hki
              obtain ⟨y1, k1a, k1b⟩ := N1.out.2.2.1.some hki2
              by_cases hin : i < fa.size
              · have HI : (i : Int) < (fa.size : Int) := by omega
                have N2 := hide (show OvM w w.heap.size m v g (spl T0 108 (PAl.take (i + 1))) ((wr.setCell ⟨g, 108 + i, none⟩ (.int .u8 0)).setCell ⟨g, 108 + i, none⟩ (.int .u8 (fa[i].toNat : Int))) from by
                  have := N1.out.put hki2 fa[i]
                  rw [List.set_set, SET.out _ (PAl1.out i hin)] at this
                  exact this)
                generalize hj : 108 + i = j at *
                clear hki hki2 SLn SET N1 HM2 hj
                go_wp2
                go_roundw
                case rel => exact ⟨i + 1, hlt, by go_num, N2.out⟩
                case measure => simp [intOf]; omega
              · have HI : ¬ (i : Int) < (fa.size : Int) := by omega
                have N2 := hide (show OvM w w.heap.size m v g (spl T0 108 (PAl.take (i + 1))) (wr.setCell ⟨g, 108 + i, none⟩ (.int .u8 0)) from by
                  rw [← SET.out 0 (PAl2.out i (by omega) hlt)]; exact N1.out)
                generalize hj : 108 + i = j at *
                clear hki hki2 SLn SET N1 HM2 hj
                go_wp2
                go_roundw
                case rel => exact ⟨i + 1, hlt, by go_num, N2.out⟩
                case measure => simp [intOf]; omega
            · have hn : i = 128 := by omega
              subst hn
              have HF := hide (show OvM w w.heap.size m v g (spl T0 108 PAl) wr by have := HM2.out; rw [List.take_of_length_le (by rw [PA.out]; exact Nat.le_refl _)] at this; exact this)
              clear HM2
              go_wp2
              go_meet
              exact ⟨by rw [show W1 l F 1 = emitB l ++ emitB F from rfl, ← cat_bs, HAA.out, ← HFB.out], HF.out⟩
        · clear OK1
          go_wp2
          go_meet
          exact ⟨by rw [← HAA.out]; rfl, M7.out⟩
        · clear OK1
          go_wp2_with fail
          go_loopw [19] (fun vi wr => ∃ i : Nat, i ≤ 128 ∧ vi = .int .i64 (i : Nat) ∧ OvM w w.heap.size m v g (spl T0 108 (PAl.take i)) wr) (fun vi _ => 128 - (intOf vi).toNat)
          case atStart => exact ⟨0, Nat.zero_le _, rfl, by rw [List.take_zero, spl_nil]; exact M7.out⟩
          case round =>
            obtain ⟨i, hi, rfl, HM⟩ := hrel
            have HM2 := hide HM
            clear HM
            by_cases hlt : i < 128
            · have SLn := hide (show (spl T0 108 (PAl.take i)).length = 240 by rw [spl_len (by rw [List.length_take]; have := PA.out; have := M7L.out; omega)]; exact M7L.out)
              have KI : (108 : Int) + (i : Int) = ((108 + i : Nat) : Int) := by omega
              have KL : ((108 + i : Nat) : Int) < 240 := by omega
              have SET := hide (fun x (hx : PAl[i]? = some x) => spl_set (L := T0) (o := 108) (by have := PA.out; have := M7L.out; omega) hx)
              have hki : 108 + i < (spl T0 108 (PAl.take i)).length := by rw [SLn.out]; omega
              obtain ⟨y0, k0a, k0b⟩ := HM2.out.2.2.1.some hki
              have N1 := hide (show OvM w w.heap.size m v g ((spl T0 108 (PAl.take i)).set (108 + i) 0) (wr.setCell ⟨g, 108 + i, none⟩ (.int .u8 0)) from HM2.out.put hki 0)
              have hki2 : 108 + i < ((spl T0 108 (PAl.take i)).set (108 + i) 0).length := by rw [List.length_set]; exact hki
              obtain ⟨y1, k1a, k1b⟩ := N1.out.2.2.1.some hki2
              by_cases hin : i < fa.size
              · have HI : (i : Int) < (fa.size : Int) := by omega
                have N2 := hide (show OvM w w.heap.size m v g (spl T0 108 (PAl.take (i + 1))) ((wr.setCell ⟨g, 108 + i, none⟩ (.int .u8 0)).setCell ⟨g, 108 + i, none⟩ (.int .u8 (fa[i].toNat : Int))) from by
                  have := N1.out.put hki2 fa[i]
                  rw [List.set_set, SET.out _ (PAl1.out i hin)] at this
                  exact this)
                generalize hj : 108 + i = j at *
                clear hki hki2 SLn SET N1 HM2 hj
                go_wp2
                go_roundw
                case rel => exact ⟨i + 1, hlt, by go_num, N2.out⟩
                case measure => simp [intOf]; omega
              · have HI : ¬ (i : Int) < (fa.size : Int) := by omega
                have N2 := hide (show OvM w w.heap.size m v g (spl T0 108 (PAl.take (i + 1))) (wr.setCell ⟨g, 108 + i, none⟩ (.int .u8 0)) from by
                  rw [← SET.out 0 (PAl2.out i (by omega) hlt)]; exact N1.out)
                generalize hj : 108 + i = j at *
                clear hki hki2 SLn SET N1 HM2 hj
                go_wp2
                go_roundw
                case rel => exact ⟨i + 1, hlt, by go_num, N2.out⟩
                case measure => simp [intOf]; omega
            · have hn : i = 128 := by omega
              subst hn
              have HF := hide (show OvM w w.heap.size m v g (spl T0 108 PAl) wr by have := HM2.out; rw [List.take_of_length_le (by rw [PA.out]; exact Nat.le_refl _)] at this; exact this)
              clear HM2
              go_wp2
              go_meet
              exact ⟨by rw [show W1 l F 3 = emitB l ++ emitB F from rfl, ← cat_bs, HAA.out, ← HFB.out], HF.out⟩
      case rest =>
        obtain ⟨rfl, M8⟩ := hcut
        have M8 := hide M8
        have w1s : (bs (W1 l F k)).size ≤ 60128 := by
          have e1 : (bs (W1 l F k)).size = (W1 l F k).length := bs_size _
          rw [e1]
          have a1 : (emitB l).length ≤ 60000 := by rw [← bs_size, HAA.out]; exact az1
          have a2 : (emitB F).length ≤ 128 := by rw [← bs_size, ← HFB.out]; exact F4
          unfold W1
          split
          · rw [List.length_append]; omega
          · omega
        have HW1 := hide (show W1 l F k = W1 l F k from rfl)
        generalize hw1 : W1 l F k = wl at *
        have HWL := hide hw1
        generalize hwb : bs wl = wb at *
        have HWB := hide hwb
        have NXb : ¬ 9223372036854775807 < wb.size + nb.size := by omega
        have NXe : ¬ 9223372036854775807 < wb.size + LN := by have := GNs; omega
        have NXf : ¬ 9223372036854775807 < wb.size + min LN na.size := by have := GNs; omega
        clear hw1 hwb HW1
        have M8L := hide (show (T1 T0 k PAl).length = 240 by
          unfold T1
          split
          · rw [spl_len (by rw [PA.out, T0L.out]; decide)]; exact T0L.out
          · exact T0L.out)
        generalize hT : T1 T0 k PAl = TA at *
        have HTA := hide hT
        clear hT
        go_upto_if 125 with fail
        go_cut [17] (fun s17 wx => s17 = .string (bs (W2 wl N k)) ∧ OvM w w.heap.size m v g (T2 TA k PBl) wx)
        case first =>
          rcases k_cases hk1 hk3 with rfl | rfl | rfl
          · clear OK1
            go_wp2
            go_meet
            exact ⟨by rw [← HWB.out]; rfl, M8.out⟩
          · clear OK1
            go_wp2_with fail
            go_loopw [20] (fun vi wr => ∃ i : Nat, i ≤ 64 ∧ vi = .int .i64 (i : Nat) ∧ OvM w w.heap.size m v g (spl TA 44 (PBl.take i)) wr) (fun vi _ => 64 - (intOf vi).toNat)
            case atStart => exact ⟨0, Nat.zero_le _, rfl, by rw [List.take_zero, spl_nil]; exact M8.out⟩
            case round =>
              obtain ⟨i, hi, rfl, HM⟩ := hrel
              have HM2 := hide HM
              clear HM
              by_cases hlt : i < 64
              · have SLn := hide (show (spl TA 44 (PBl.take i)).length = 240 by rw [spl_len (by rw [List.length_take]; have := PB.out; have := M8L.out; omega)]; exact M8L.out)
                have KI : (44 : Int) + (i : Int) = ((44 + i : Nat) : Int) := by omega
                have KL : ((44 + i : Nat) : Int) < 240 := by omega
                have SET := hide (fun x (hx : PBl[i]? = some x) => spl_set (L := TA) (o := 44) (by have := PB.out; have := M8L.out; omega) hx)
                have hki : 44 + i < (spl TA 44 (PBl.take i)).length := by rw [SLn.out]; omega
                obtain ⟨y0, k0a, k0b⟩ := HM2.out.2.2.1.some hki
                have N1 := hide (show OvM w w.heap.size m v g ((spl TA 44 (PBl.take i)).set (44 + i) 0) (wr.setCell ⟨g, 44 + i, none⟩ (.int .u8 0)) from HM2.out.put hki 0)
                have hki2 : 44 + i < ((spl TA 44 (PBl.take i)).set (44 + i) 0).length := by rw [List.length_set]; exact hki
                obtain ⟨y1, k1a, k1b⟩ := N1.out.2.2.1.some hki2
                by_cases hin : i < na.size
                · have HI : (i : Int) < (na.size : Int) := by omega
                  have N2 := hide (show OvM w w.heap.size m v g (spl TA 44 (PBl.take (i + 1))) ((wr.setCell ⟨g, 44 + i, none⟩ (.int .u8 0)).setCell ⟨g, 44 + i, none⟩ (.int .u8 (na[i].toNat : Int))) from by
                    have := N1.out.put hki2 na[i]
                    rw [List.set_set, SET.out _ (PBl1.out i hin)] at this
                    exact this)
                  generalize hj : 44 + i = j at *
                  clear hki hki2 SLn SET N1 HM2 hj
                  go_wp2
                  go_roundw
                  case rel => exact ⟨i + 1, hlt, by go_num, N2.out⟩
                  case measure => simp [intOf]; omega
                · have HI : ¬ (i : Int) < (na.size : Int) := by omega
                  have N2 := hide (show OvM w w.heap.size m v g (spl TA 44 (PBl.take (i + 1))) (wr.setCell ⟨g, 44 + i, none⟩ (.int .u8 0)) from by
                    rw [← SET.out 0 (PBl2.out i (by omega) hlt)]; exact N1.out)
                  generalize hj : 44 + i = j at *
                  clear hki hki2 SLn SET N1 HM2 hj
                  go_wp2
                  go_roundw
                  case rel => exact ⟨i + 1, hlt, by go_num, N2.out⟩
                  case measure => simp [intOf]; omega
              · have hn : i = 64 := by omega
                subst hn
                have HF := hide (show OvM w w.heap.size m v g (spl TA 44 PBl) wr by have := HM2.out; rw [List.take_of_length_le (by rw [PB.out]; exact Nat.le_refl _)] at this; exact this)
                clear HM2
                go_wp2
                go_meet
                exact ⟨by rw [show W2 wl N 2 = wl ++ emitB N from rfl, ← cat_bs, HWB.out, ← HNB.out], HF.out⟩
          · clear OK1
            go_wp2_with fail
            go_loopw [20] (fun vi wr => ∃ i : Nat, i ≤ 64 ∧ vi = .int .i64 (i : Nat) ∧ OvM w w.heap.size m v g (spl TA 44 (PBl.take i)) wr) (fun vi _ => 64 - (intOf vi).toNat)
            case atStart => exact ⟨0, Nat.zero_le _, rfl, by rw [List.take_zero, spl_nil]; exact M8.out⟩
            case round =>
              obtain ⟨i, hi, rfl, HM⟩ := hrel
              have HM2 := hide HM
              clear HM
              by_cases hlt : i < 64
              · have SLn := hide (show (spl TA 44 (PBl.take i)).length = 240 by rw [spl_len (by rw [List.length_take]; have := PB.out; have := M8L.out; omega)]; exact M8L.out)
                have KI : (44 : Int) + (i : Int) = ((44 + i : Nat) : Int) := by omega
                have KL : ((44 + i : Nat) : Int) < 240 := by omega
                have SET := hide (fun x (hx : PBl[i]? = some x) => spl_set (L := TA) (o := 44) (by have := PB.out; have := M8L.out; omega) hx)
                have hki : 44 + i < (spl TA 44 (PBl.take i)).length := by rw [SLn.out]; omega
                obtain ⟨y0, k0a, k0b⟩ := HM2.out.2.2.1.some hki
                have N1 := hide (show OvM w w.heap.size m v g ((spl TA 44 (PBl.take i)).set (44 + i) 0) (wr.setCell ⟨g, 44 + i, none⟩ (.int .u8 0)) from HM2.out.put hki 0)
                have hki2 : 44 + i < ((spl TA 44 (PBl.take i)).set (44 + i) 0).length := by rw [List.length_set]; exact hki
                obtain ⟨y1, k1a, k1b⟩ := N1.out.2.2.1.some hki2
                by_cases hin : i < na.size
                · have HI : (i : Int) < (na.size : Int) := by omega
                  have N2 := hide (show OvM w w.heap.size m v g (spl TA 44 (PBl.take (i + 1))) ((wr.setCell ⟨g, 44 + i, none⟩ (.int .u8 0)).setCell ⟨g, 44 + i, none⟩ (.int .u8 (na[i].toNat : Int))) from by
                    have := N1.out.put hki2 na[i]
                    rw [List.set_set, SET.out _ (PBl1.out i hin)] at this
                    exact this)
                  generalize hj : 44 + i = j at *
                  clear hki hki2 SLn SET N1 HM2 hj
                  go_wp2
                  go_roundw
                  case rel => exact ⟨i + 1, hlt, by go_num, N2.out⟩
                  case measure => simp [intOf]; omega
                · have HI : ¬ (i : Int) < (na.size : Int) := by omega
                  have N2 := hide (show OvM w w.heap.size m v g (spl TA 44 (PBl.take (i + 1))) (wr.setCell ⟨g, 44 + i, none⟩ (.int .u8 0)) from by
                    rw [← SET.out 0 (PBl2.out i (by omega) hlt)]; exact N1.out)
                  generalize hj : 44 + i = j at *
                  clear hki hki2 SLn SET N1 HM2 hj
                  go_wp2
                  go_roundw
                  case rel => exact ⟨i + 1, hlt, by go_num, N2.out⟩
                  case measure => simp [intOf]; omega
              · have hn : i = 64 := by omega
                subst hn
                have HF := hide (show OvM w w.heap.size m v g (spl TA 44 PBl) wr by have := HM2.out; rw [List.take_of_length_le (by rw [PB.out]; exact Nat.le_refl _)] at this; exact this)
                clear HM2
                go_wp2
                go_meet
                exact ⟨by rw [show W2 wl N 3 = wl ++ emitB N from rfl, ← cat_bs, HWB.out, ← HNB.out], HF.out⟩
        case rest =>
          obtain ⟨rfl, M9⟩ := hcut
          have M9 := hide M9
          have M9L := hide (show (T2 TA k PBl).length = 240 by
            unfold T2
            split
            · rw [spl_len (by rw [PB.out, M8L.out]; decide)]; exact M8L.out
            · exact M8L.out)
          have w2s := hide (show (bs (W2 wl N k)).size ≤ 60192 by
            rw [bs_size]
            have a1 : wl.length ≤ 60128 := by rw [← bs_size, HWB.out]; exact w1s
            have a2 : (emitB N).length ≤ 64 := by rw [← bs_size, ← HNB.out]; exact G4
            unfold W2
            split
            · rw [List.length_append]; omega
            · omega)
          generalize hTB : T2 TA k PBl = TB at *
          generalize hwt : W2 wl N k = wt at *
          have EQ : bs TB ++ (aa ++ ⟨#[52, 1]⟩ ++ ks ++ ⟨#[255]⟩) = bs (TB ++ (emitB l ++ [52, 1, kb, 255])) := by
            rw [← HAA.out, HKS.out, show (⟨#[52, 1]⟩ : ByteArray) = bs [52, 1] from rfl, show (⟨#[255]⟩ : ByteArray) = bs [255] from rfl, show (⟨[kb].toArray⟩ : ByteArray) = bs [kb] from rfl]
            simp only [cat_bs]
            congr 1
            simp
          obtain ⟨nD, hD, lD, hDec⟩ : ∃ n h l2, decR (bs (TB ++ (emitB l ++ [52, 1, kb, 255]))) = (n, h, l2) := ⟨_, _, _, rfl⟩
          have OK2 := OK1.out
          rw [hDec] at OK2
          have OK2 := hide OK2
          have LD : lD.length ≤ 128 := by have := dec_len (bs (TB ++ (emitB l ++ [52, 1, kb, 255]))); rw [hDec] at this; exact this
          have DEC := hide (fun W => (show Calls Try.prog 16 #[.string (bs TB ++ (aa ++ ⟨#[52, 1]⟩ ++ ks ++ ⟨#[255]⟩))] W (DecQ nD hD lD W) by rw [EQ]; exact dec_q hDec W))
          have CB := conv_back (cap := cap) (n := 240) M9.out.2.2.1 M9L.out
          have tbs : (bs TB).size = 240 := by rw [bs_size]; exact M9L.out
          generalize bs TB = tb at *
          have WL := hide (show lb (bs wt) = wt from lb_bs _)
          generalize hwq : bs wt = wq at *
          have BM := hide M9.out.2.1
          have DM := hide M9.out.1
          clear hDec EQ OK1 M7 M8 M9 hTB hwt hwq M9L M8L T0L M7L HKB HKS HNB HFB HWB HWL HTA OD PAl1 PAl2 PBl1 PBl2 PA PB SX F1 F2 F4 G1 G2 G4 fx nx fx2 nx2 LFs LNs NXa NXb NXc NXd NXe NXf GNs w1s
          go_wp2_with fail
          refine (DEC.out _).mono ?_
          rintro e wd ⟨pd, cd, rfl, hbd, hod⟩
          have Dd := hide (DM.out.trans (hbd.mono DM.out.size))
          have Bd := hide (BM.out.step hbd)
          have Nd := hide (box_new wd zeroH (.slice none 0 0))
          have Hod := hide hod
          have OK3 := OK2.out
          rw [← WL.out] at OK3
          have OK3 := hide OK3
          have PS := hide (fun W => parse_one wq (Nat.le_trans w2s.out (by decide)) W)
          have PL := hide (parseO_len [lb wq])
          generalize parseE [lb wq] = pe at *
          generalize parseO [lb wq] = pl at *
          clear hbd hod BM DM DEC OK2 WL w2s CB tbs HAA
          go_wp2_with (refine wpList_store_box rfl (.tmp 21) (.tmp 158) rfl wd.heap.size _ hD _ (.slice pd lD.length cd) rfl rfl rfl Nd.out ?_; intro we g4 b4 z4; have K4 := (below_alloc wd (.cells (cellsM zeroH (.slice none 0 0)) 26)).trans (b4 _ (Nat.le_refl _)); have F1 := hide (show OvF w m v wd.heap.size hD (.slice pd lD.length cd) lD we from ⟨Dd.out.trans (K4.mono Dd.out.size), Bd.out.step K4, g4, Hod.out.step K4⟩); clear g4 b4 z4 K4 Dd Bd Hod Nd)
          refine (PS.out we).mono ?_
          rintro e wf ⟨vf, rfl, hbf, hof⟩
          have F2 := hide (F1.out.step ((below_alloc we (.cells #[.string wq] 9)).trans (hbf.mono (below_alloc we (.cells #[.string wq] 9)).size)))
          have Lf := hide (ownO_lst hof)
          clear hbf hof F1 PS
          by_cases q0 : nD = 0
          · by_cases qp : pe = 0
            · obtain ⟨hh, hl2⟩ := Prod.mk.inj (OK3.out.2 q0 qp)
              have QE : ((nD : Nat) : Int) = 0 := by omega
              have QP : ((pe : Nat) : Int) = 0 := by omega
              have WO := hide (fun W (h : LstO vf pl W) => (show Calls Try.prog 20 #[vf, KV 52] W (MakesO W.heap.size lD W) by rw [hl2]; exact without_any 52 (by have := PL.out; omega) W h))
              have SY := hide (fun (va vb : Value) W (ha : LstO va lD W) (hb : LstO vb lD W) => same_yes hD (l := lD) (by omega) W ha hb)
              have BK := hide (fun W => blank_any W)
              have HH := hide hh
              clear q0 qp OK3 PL hh hl2
              rcases k_cases hk1 hk3 with rfl | rfl | rfl
              · have HK := hide (show hD = { m with file := blankH.file } from HH.out.trans (headN1 m))
                clear HH
                generalize blankH = B at *
                go_wp2_with fail
                refine (WO.out _ Lf.out).mono ?_
                rintro e wg ⟨v3, rfl, hbg, hog⟩
                have F3 := hide (F2.out.step hbg)
                have O3 := hide (ownO_lst hog)
                obtain ⟨p3, c3, rfl, _⟩ := lenO hog
                have N3 := hide (box_new wg zeroH (.slice none 0 0))
                have K3g := hide (below_alloc wg (.cells (cellsM zeroH (.slice none 0 0)) 26))
                clear hbg hog F2 Lf WO
                go_wp2_with (first | (refine wpList_load_box rfl (.tmp 3) rfl w.heap.size m v rfl F3.out.2.1 ?_) | (refine wpList_store_box rfl (.tmp 25) (.tmp 180) rfl wg.heap.size _ m _ v rfl rfl VO.out N3.out ?_; intro w5 g5 b5 z5; have G5 := hide (show OvG wg m v w5 from ⟨K3g.out.trans (b5 _ (Nat.le_refl _)), g5⟩); have c14 := G5.out.2.at.2.2.2; have f14 := free_at G5.out.2 14; have G6 := hide (G5.out.opts (.slice p3 lD.length c3)); clear g5 b5 z5 G5))
                refine (BK.out _).mono ?_
                rintro e w8 ⟨rfl, hb8⟩
                have G8 := hide (G6.out.step hb8)
                have c13 := G8.out.2.at.2.2.1
                have f13 := free_at G8.out.2 13
                have e13 := fld13 B (.slice none 0 0) w8
                have H8 := hide (show OvG wg { m with file := B.file } (.slice p3 lD.length c3) (w8.setCell ⟨wg.heap.size, 13, none⟩ (.string B.file)) from G8.out.put (k := 13) (by omega) (.st B.file) rfl)
                clear hb8 G6 G8
                have G9 := hide (show OvG wg hD (.slice p3 lD.length c3) (w8.setCell ⟨wg.heap.size, 13, none⟩ (.string B.file)) by rw [HK.out]; exact H8.out)
                have F4 := hide (F3.out.step G9.out.1)
                have O4 := hide (O3.out.step G9.out.1)
                clear H8 F3 O3 N3 K3g HK
                go_wp2_with (first | (refine wpList_load_box rfl (.tmp 21) rfl wd.heap.size hD (.slice pd lD.length cd) rfl F4.out.2.2.1 ?_) | (refine wpList_load_box rfl (.tmp 25) rfl wg.heap.size hD (.slice p3 lD.length c3) rfl G9.out.2 ?_))
                refine (SY.out _ _ _ F4.out.2.2.2 O4.out).mono ?_
                rintro e w9 ⟨rfl, hb9⟩
                have F5 := hide (F4.out.step hb9)
                clear hb9 F4 O4 G9 SY BK
                go_wp2
                go_roundw
                case rel => exact ⟨2, by omega, by omega, by first | rfl | go_num, F5.out.1, F5.out.2.1⟩
                case measure => first | (simp [intOf]; done) | (simp [intOf]; omega)
              · have HK := hide (show hD = { m with name := blankH.name } from HH.out.trans (headN2 m))
                clear HH
                generalize blankH = B at *
                go_wp2_with fail
                refine (WO.out _ Lf.out).mono ?_
                rintro e wg ⟨v3, rfl, hbg, hog⟩
                have F3 := hide (F2.out.step hbg)
                have O3 := hide (ownO_lst hog)
                obtain ⟨p3, c3, rfl, _⟩ := lenO hog
                have N3 := hide (box_new wg zeroH (.slice none 0 0))
                have K3g := hide (below_alloc wg (.cells (cellsM zeroH (.slice none 0 0)) 26))
                clear hbg hog F2 Lf WO
                go_wp2_with (first | (refine wpList_load_box rfl (.tmp 3) rfl w.heap.size m v rfl F3.out.2.1 ?_) | (refine wpList_store_box rfl (.tmp 25) (.tmp 180) rfl wg.heap.size _ m _ v rfl rfl VO.out N3.out ?_; intro w5 g5 b5 z5; have G5 := hide (show OvG wg m v w5 from ⟨K3g.out.trans (b5 _ (Nat.le_refl _)), g5⟩); have c14 := G5.out.2.at.2.2.2; have f14 := free_at G5.out.2 14; have G6 := hide (G5.out.opts (.slice p3 lD.length c3)); clear g5 b5 z5 G5))
                refine (BK.out _).mono ?_
                rintro e w8 ⟨rfl, hb8⟩
                have G8 := hide (G6.out.step hb8)
                have c12 := G8.out.2.at.2.1
                have f12 := free_at G8.out.2 12
                have e12 := fld12 B (.slice none 0 0) w8
                have H8 := hide (show OvG wg { m with name := B.name } (.slice p3 lD.length c3) (w8.setCell ⟨wg.heap.size, 12, none⟩ (.string B.name)) from G8.out.put (k := 12) (by omega) (.st B.name) rfl)
                clear hb8 G6 G8
                have G9 := hide (show OvG wg hD (.slice p3 lD.length c3) (w8.setCell ⟨wg.heap.size, 12, none⟩ (.string B.name)) by rw [HK.out]; exact H8.out)
                have F4 := hide (F3.out.step G9.out.1)
                have O4 := hide (O3.out.step G9.out.1)
                clear H8 F3 O3 N3 K3g HK
                go_wp2_with (first | (refine wpList_load_box rfl (.tmp 21) rfl wd.heap.size hD (.slice pd lD.length cd) rfl F4.out.2.2.1 ?_) | (refine wpList_load_box rfl (.tmp 25) rfl wg.heap.size hD (.slice p3 lD.length c3) rfl G9.out.2 ?_))
                refine (SY.out _ _ _ F4.out.2.2.2 O4.out).mono ?_
                rintro e w9 ⟨rfl, hb9⟩
                have F5 := hide (F4.out.step hb9)
                clear hb9 F4 O4 G9 SY BK
                go_wp2
                go_roundw
                case rel => exact ⟨3, by omega, by omega, by first | rfl | go_num, F5.out.1, F5.out.2.1⟩
                case measure => first | (simp [intOf]; done) | (simp [intOf]; omega)
              · have HK := hide (show hD = { m with file := blankH.file, name := blankH.name } from HH.out.trans (headN3 m))
                clear HH
                generalize blankH = B at *
                go_wp2_with fail
                refine (WO.out _ Lf.out).mono ?_
                rintro e wg ⟨v3, rfl, hbg, hog⟩
                have F3 := hide (F2.out.step hbg)
                have O3 := hide (ownO_lst hog)
                obtain ⟨p3, c3, rfl, _⟩ := lenO hog
                have N3 := hide (box_new wg zeroH (.slice none 0 0))
                have K3g := hide (below_alloc wg (.cells (cellsM zeroH (.slice none 0 0)) 26))
                clear hbg hog F2 Lf WO
                go_wp2_with (first | (refine wpList_load_box rfl (.tmp 3) rfl w.heap.size m v rfl F3.out.2.1 ?_) | (refine wpList_store_box rfl (.tmp 25) (.tmp 180) rfl wg.heap.size _ m _ v rfl rfl VO.out N3.out ?_; intro w5 g5 b5 z5; have G5 := hide (show OvG wg m v w5 from ⟨K3g.out.trans (b5 _ (Nat.le_refl _)), g5⟩); have c14 := G5.out.2.at.2.2.2; have f14 := free_at G5.out.2 14; have G6 := hide (G5.out.opts (.slice p3 lD.length c3)); clear g5 b5 z5 G5))
                refine (BK.out _).mono ?_
                rintro e w7 ⟨rfl, hb7⟩
                have G7 := hide (G6.out.step hb7)
                have c13 := G7.out.2.at.2.2.1
                have f13 := free_at G7.out.2 13
                have e13 := fld13 B (.slice none 0 0) w7
                have H7 := hide (show OvG wg { m with file := B.file } (.slice p3 lD.length c3) (w7.setCell ⟨wg.heap.size, 13, none⟩ (.string B.file)) from G7.out.put (k := 13) (by omega) (.st B.file) rfl)
                clear hb7 G6 G7
                go_wp2_with fail
                refine (BK.out _).mono ?_
                rintro e w8 ⟨rfl, hb8⟩
                have G8 := hide (H7.out.step hb8)
                have c12 := G8.out.2.at.2.1
                have f12 := free_at G8.out.2 12
                have e12 := fld12 B (.slice none 0 0) w8
                have H8 := hide (show OvG wg { m with file := B.file, name := B.name } (.slice p3 lD.length c3) (w8.setCell ⟨wg.heap.size, 12, none⟩ (.string B.name)) from G8.out.put (k := 12) (by omega) (.st B.name) rfl)
                clear hb8 H7 G8
                have G9 := hide (show OvG wg hD (.slice p3 lD.length c3) (w8.setCell ⟨wg.heap.size, 12, none⟩ (.string B.name)) by rw [HK.out]; exact H8.out)
                have F4 := hide (F3.out.step G9.out.1)
                have O4 := hide (O3.out.step G9.out.1)
                clear H8 F3 O3 N3 K3g HK
                go_wp2_with (first | (refine wpList_load_box rfl (.tmp 21) rfl wd.heap.size hD (.slice pd lD.length cd) rfl F4.out.2.2.1 ?_) | (refine wpList_load_box rfl (.tmp 25) rfl wg.heap.size hD (.slice p3 lD.length c3) rfl G9.out.2 ?_))
                refine (SY.out _ _ _ F4.out.2.2.2 O4.out).mono ?_
                rintro e w9 ⟨rfl, hb9⟩
                have F5 := hide (F4.out.step hb9)
                clear hb9 F4 O4 G9 SY BK
                go_wp2
                go_roundw
                case rel => exact ⟨4, by omega, by omega, by first | rfl | go_num, F5.out.1, F5.out.2.1⟩
                case measure => first | (simp [intOf]; done) | (simp [intOf]; omega)
            · have QE : ((nD : Nat) : Int) = 0 := by omega
              have QP : ¬ ((pe : Nat) : Int) = 0 := by omega
              clear q0 qp OK3 PL Lf
              go_wp2
              go_ret
              exact ⟨rfl, F2.out.1⟩
          · have q6 : nD = 6 := by
              rcases OK3.out.1 with h | h
              · exact absurd h q0
              · exact h
            have QE : ¬ ((nD : Nat) : Int) = 0 := by omega
            have QP : ((nD : Nat) : Int) = 6 := by omega
            clear q0 q6 OK3 PL Lf
            go_wp2
            go_ret
            exact ⟨rfl, F2.out.1⟩
    · have K3 : ¬ (k : Int) ≤ 3 := by omega
      go_wp2
      go_ret
      exact ⟨rfl, HD2.out⟩
end Go.Proofs.Ytmoklodaeicpgaa
