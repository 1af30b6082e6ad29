/-
  The document's own PutIA. Condition: a row takes at most 2^47 bytes.
-/
import Derived.Test.YtcpldojgmboipaaSrO
import Derived.Test.YtcpldojgmboipaaSrB
import Derived.Deep.DeepCutAuto
namespace Go.Proofs.Ytcpldojgmboipaa
open Go.RowKit Go.Joins

set_option maxRecDepth 100000 in
set_option maxHeartbeats 4000000 in
theorem rputIA_no (a : IA) (hf : FitA a) (hs : soundA a = false) {v : Value} (hl : a.has.length * 40 ≤ 140737488355328) (w : World) (hv : LstI v a.has w) :
    Calls Try.prog 20 #[AV a v] w (Gives (.tuple #[OV (puO a), .int .i64 (puE a)]) w) := by
  have SO := hide (fun W (hb : Below w.heap.size w W) => rasound_any a hf hl W (hv.step hb))
  rw [hs] at SO
  have E := hide (show puE a = 130 ∧ puO a = (0, ⟨#[]⟩) by unfold puE puO; rw [hs]; exact ⟨rfl, rfl⟩)
  have H0 := hide (pa_new w a v)
  clear hs hf hv
  go_enter Try.func20, Try.ntmps20
  go_wp2_with fail
  obtain ⟨y0, y1, y2, y3, y4, y5⟩ := ia_cells H0.out.2.1
  go_wp2_with fail
  refine (SO.out _ H0.out.1).mono ?_
  rintro e w1 ⟨rfl, hb1⟩
  have H1 := hide (H0.out.step hb1)
  clear hb1 H0 SO y0 y1 y2 y3 y4 y5
  go_wp2_with (refine wpList_store_bx rfl (.tmp 2) (.tmp 11) rfl (w.heap.size + 1) _ _ H1.out.2.2 rfl rfl infoZ rfl rfl ?_; intro w7 G7 F7)
  have g0 := G7.cell 0
  have g1 := G7.cell 1
  have D7 := hide (show Below w.heap.size w w7 from H1.out.1.trans (F7.below H1.out.1.size (fun k e => by omega)))
  have EE := hide E.out.1
  have EO := hide E.out.2
  simp at g0 g1
  clear E H1 F7 G7
  refine bodyPost_ret (v := .tuple #[.agg #[.int .u16 0, .string ⟨#[]⟩], .int .i64 130]) (by simp [results, Try.results20, go_sem, g0, g1]) rfl ⟨?_, D7.out⟩
  rw [EE.out, EO.out]; rfl
/-- .. and one of Has -/
def PXw (w : World) (a : IA) (v : Value) (b : Nat) (x : In) (W : World) : Prop := PAw w a v W ∧ Bx b 74 (cellsV x).toArray W
theorem PXw.step {w : World} {a : IA} {v : Value} {b : Nat} {x : In} {W W2 : World} (h : PXw w a v b x W) (hb : Below W.heap.size W W2) : PXw w a v b x W2 := ⟨h.1.step hb, h.2.step hb⟩
theorem in_cells {b : Nat} {x : In} {W : World} (h : Bx b 74 (cellsV x).toArray W) : W.cell? ⟨b, 0, none⟩ = some (.int .u64 (hi x.addr : Nat)) ∧ W.cell? ⟨b, 1, none⟩ = some (.int .u64 (lo x.addr : Nat)) ∧ W.cell? ⟨b, 2, none⟩ = some (.int .i64 x.bits) ∧ W.cell? ⟨b, 3, none⟩ = some (.int .u32 (x.pref.toNat : Int)) ∧ W.cell? ⟨b, 4, none⟩ = some (.int .u32 (x.valid.toNat : Int)) ∧ W.cell? ⟨b, 5, none⟩ = some (.int .i64 x.code) :=
  ⟨h.cell 0, h.cell 1, h.cell 2, h.cell 3, h.cell 4, h.cell 5⟩
theorem emit_map_take {a : IA} {k : Nat} {x : In} (hx : a.has[k]? = some x) : emitL ((a.has.take (k + 1)).map (putI a.kind)) = emitL ((a.has.take k).map (putI a.kind)) ++ optL (putI a.kind x) := by
  rw [List.take_add_one, hx, List.map_append, emitL_append]
  show _ ++ emitL [putI a.kind x] = _
  rw [emitL_one]
theorem emit_map_len {a : IA} (k : Nat) : (emitL ((a.has.take k).map (putI a.kind))).length ≤ k * 65539 := by
  have h := emit_len (l := (a.has.take k).map (putI a.kind)) (fun x hx => okO_held a x (by
    unfold heldA
    rw [← List.take_append_drop k a.has, List.map_append, List.append_assoc]
    exact List.mem_append_left _ hx))
  rw [List.length_map, List.length_take] at h
  exact Nat.le_trans h (Nat.mul_le_mul_right _ (Nat.min_le_left _ _))
set_option maxRecDepth 100000 in
set_option maxHeartbeats 4000000 in
theorem rputIA_yes (a : IA) (hf : FitA a) (hs : soundA a = true) {v : Value} (hl : a.has.length * 40 ≤ 140737488355328) (w : World) (hv : LstI v a.has w) :
    Calls Try.prog 20 #[AV a v] w (Gives (.tuple #[OV (puO a), .int .i64 (puE a)]) w) := by
  have SO := hide (fun W (hb : Below w.heap.size w W) => rasound_any a hf hl W (hv.step hb))
  rw [hs] at SO
  obtain ⟨s1, s2, s3, s4, s5⟩ := soundA_iff.1 hs
  have E := hide (show puE a = 0 ∧ puO a = (codeK a.kind, bs (headA a ++ emitL (heldA a))) by unfold puE puO; rw [hs]; exact ⟨rfl, rfl⟩)
  have H0 := hide (pa_new w a v)
  have CO := hide (fun W => rcode_any a.kind s1 W)
  have P0 := hide (fun W => put32_ref a.iaid.toNat a.iaid.toNat_lt W)
  have P1 := hide (fun W => put32_ref a.t1.toNat a.t1.toNat_lt W)
  have P2 := hide (fun W => put32_ref a.t2.toNat a.t2.toNat_lt W)
  have SX := hide (fun x (hx : x ∈ a.has) => And.intro (hf x hx) (s5 x hx))
  have HV := hide (fun W (H : Below w.heap.size w W) => hv.step H)
  have hcap : ∃ p c, v = .slice p a.has.length c ∧ a.has.length ≤ c := by
    obtain ⟨p, c, rfl⟩ := lstI_len hv
    exact ⟨p, c, rfl, (lstI_cap hv).2.1⟩
  have HD := hide (show headA a = if a.kind = 3 then beL 4 a.iaid.toNat else beL 4 a.iaid.toNat ++ (beL 4 a.t1.toNat ++ beL 4 a.t2.toNat) from rfl)
  have lh := headA_len a
  have sz : sizeA a.kind ≤ 12 := by unfold sizeA; split <;> omega
  clear hs hf hv s4 s5
  go_enter Try.func20, Try.ntmps20
  obtain ⟨y0, y1, y2, y3, y4, y5⟩ := ia_cells H0.out.2.1
  go_wp2_with fail
  refine (SO.out _ H0.out.1).mono ?_
  rintro e w1 ⟨rfl, hb1⟩
  have H1 := hide (H0.out.step hb1)
  clear hb1 H0 SO y0 y1 y2 y3 y4 y5
  have y1 := (ia_cells H1.out.2.1).2.1
  go_wp2_with fail
  refine (P0.out _).mono ?_
  rintro e w3 ⟨rfl, hb3⟩
  have H3 := hide (H1.out.step hb3)
  clear hb3 H1 y1 P0
  have y0 := (ia_cells H3.out.2.1).1
  go_upto_if 17 with fail
  go_cut [4] (fun s4 wx => s4 = .string ⟨(headA a).toArray⟩ ∧ PAw w a v wx)
  case first =>
    by_cases hk : a.kind = 3
    · have ek : (a.kind != 3) = false := by simpa using hk
      rw [if_pos hk] at HD
      clear hk s1
      go_wp2
      go_meet
      exact ⟨by rw [HD.out], H3.out⟩
    · have ek : (a.kind != 3) = true := by simpa using hk
      rw [if_neg hk] at HD
      have b0 := beL_length 4 a.iaid.toNat
      have b1 := beL_length 4 a.t1.toNat
      have b2 := beL_length 4 a.t2.toNat
      generalize beL 4 a.iaid.toNat = l0 at *
      generalize beL 4 a.t1.toNat = l1 at *
      generalize beL 4 a.t2.toNat = l2 at *
      have CT := hide (show ((ByteArray.mk l0.toArray ++ ByteArray.mk l1.toArray) ++ ByteArray.mk l2.toArray) = ⟨(l0 ++ (l1 ++ l2)).toArray⟩ by rw [cat2, cat2, List.append_assoc])
      have N1 : ¬ 9223372036854775807 < l0.length + l1.length := by omega
      have N2 : ¬ 9223372036854775807 < l0.length + l1.length + l2.length := by omega
      clear hk s1 b0 b1 b2
      go_wp2_with fail
      refine wp_region_quiet (C := PAw w a v) (by kernel_rfl) (by kernel_rfl) (H3.out.step (Below.refl _ _).drew) (wpQuiet_step (fun K0 hK0 => ?_))
      go_simp
      first | (with_reducible refine hK0 _ (wpQuiet_step (fun K1 hK1 => ?_))) | (with_reducible refine ⟨_, fun _ _ => rfl, hK0 _ (wpQuiet_step (fun K1 hK1 => ?_))⟩) | (rw [if_neg (by intro e; cases e)]; with_reducible refine hK0 _ (wpQuiet_step (fun K1 hK1 => ?_)))
      clear hK0 K0
      go_simp
      first | (with_reducible refine hK1 _ (wpQuiet_step (fun K0 hK0 => ?_))) | (with_reducible refine ⟨_, fun _ _ => rfl, hK1 _ (wpQuiet_step (fun K0 hK0 => ?_))⟩) | (rw [if_neg (by intro e; cases e)]; with_reducible refine hK1 _ (wpQuiet_step (fun K0 hK0 => ?_)))
      clear hK1 K1
      go_simp
      refine ⟨.int .u32 (a.t1.toNat : Int), fun W hW => ?_, hK0 _ (wpQuiet_step (fun K1 hK1 => ?_))⟩
      · ((obtain ⟨x0, x1, x2, x3, x4, x5⟩ := ia_cells hW.2.1; simp [go_sem, x2]))
      clear hK0 K0
      go_simp
      refine ⟨St l1, fun W hW => ?_, hK1 _ (wpQuiet_step (fun K0 hK0 => ?_))⟩
      · exact (P1.out W).mono fun e w4 ⟨he, hb⟩ => ⟨he, PAw.step hW hb⟩
      clear hK1 K1
      go_simp
      first | (with_reducible refine hK0 _ (wpQuiet_step (fun K1 hK1 => ?_))) | (with_reducible refine ⟨_, fun _ _ => rfl, hK0 _ (wpQuiet_step (fun K1 hK1 => ?_))⟩) | (rw [if_neg (by intro e; cases e)]; with_reducible refine hK0 _ (wpQuiet_step (fun K1 hK1 => ?_)))
      clear hK0 K0
      go_simp
      first | (with_reducible refine hK1 _ (wpQuiet_step (fun K0 hK0 => ?_))) | (with_reducible refine ⟨_, fun _ _ => rfl, hK1 _ (wpQuiet_step (fun K0 hK0 => ?_))⟩) | (rw [if_neg (by intro e; cases e)]; with_reducible refine hK1 _ (wpQuiet_step (fun K0 hK0 => ?_)))
      clear hK1 K1
      go_simp
      refine ⟨.int .u32 (a.t2.toNat : Int), fun W hW => ?_, hK0 _ (wpQuiet_step (fun K1 hK1 => ?_))⟩
      · ((obtain ⟨x0, x1, x2, x3, x4, x5⟩ := ia_cells hW.2.1; simp [go_sem, x3]))
      clear hK0 K0
      go_simp
      refine ⟨St l2, fun W hW => ?_, hK1 _ (wpQuiet_step (fun K0 hK0 => ?_))⟩
      · exact (P2.out W).mono fun e w4 ⟨he, hb⟩ => ⟨he, PAw.step hW hb⟩
      clear hK1 K1
      go_simp
      first | (with_reducible refine hK0 _ (wpQuiet_step (fun K1 hK1 => ?_))) | (with_reducible refine ⟨_, fun _ _ => rfl, hK0 _ (wpQuiet_step (fun K1 hK1 => ?_))⟩) | (rw [if_neg (by intro e; cases e)]; with_reducible refine hK0 _ (wpQuiet_step (fun K1 hK1 => ?_)))
      clear hK0 K0
      go_simp
      first | (with_reducible refine hK1 _ (wpQuiet_nil ?_)) | (with_reducible refine ⟨_, fun _ _ => rfl, hK1 _ (wpQuiet_nil ?_)⟩) | (rw [if_neg (by intro e; cases e)]; with_reducible refine hK1 _ (wpQuiet_nil ?_))
      clear hK1 K1
      intro W5 H5
      go_wp2
      go_meet
      exact ⟨by rw [HD.out]; exact congrArg Value.string CT.out, H5⟩
  case rest =>
    obtain ⟨rfl, HC⟩ := hcut
    obtain ⟨p, c, rfl, hcl⟩ := hcap
    have HC0 := hide HC
    clear HC H3 P1 P2 HD y0
    have e0 : headA a ++ emitL ((a.has.take 0).map (putI a.kind)) = headA a := List.append_nil _
    go_wp2_with fail
    go_loopw [4, 5] (fun vs vi wr => ∃ k : Nat, k ≤ a.has.length ∧ vi = .int .i64 (k : Nat) ∧ vs = St (headA a ++ emitL ((a.has.take k).map (putI a.kind))) ∧ Hid (PAw w a (.slice p a.has.length c) wr)) (fun _ vi _ => a.has.length - (intOf vi).toNat)
    case atStart => exact ⟨0, Nat.zero_le _, rfl, by rw [e0], HC0⟩
    case round =>
      obtain ⟨k, hk, rfl, rfl, HP⟩ := hrel
      clear HC0 e0
      obtain ⟨y0, y1, y2, y3, y4, y5⟩ := ia_cells HP.out.2.1
      by_cases hlt : k < a.has.length
      · obtain ⟨x, hx⟩ := getI_some hlt
        obtain ⟨b, o, rfl, _, hat⟩ := lstI_at (HV.out _ HP.out.1) hx
        obtain ⟨x1, x2, x3, x4, x5, x6⟩ := hat.cells
        have kc : k ≤ c := by omega
        obtain ⟨fx, sx⟩ := SX.out x (List.mem_of_getElem? hx)
        obtain ⟨sx1, sx2, sx3⟩ := soundI_iff.1 sx
        have TK := hide (emit_map_take hx)
        have TL := emit_map_len (a := a) k
        have TS := hide (show headA a ++ emitL ((a.has.take (k + 1)).map (putI a.kind)) = (headA a ++ emitL ((a.has.take k).map (putI a.kind))) ++ optL (putI a.kind x) by rw [TK.out, List.append_assoc])
        have TZ : (headA a ++ emitL ((a.has.take k).map (putI a.kind))).length ≤ 1000000 := by rw [List.length_append]; omega
        generalize headA a ++ emitL ((a.has.take k).map (putI a.kind)) = pre at *
        have H4 := hide (show PXw w a (.slice (some ⟨b, o, none⟩) a.has.length c) wr.heap.size x _ from ⟨HP.out.step (below_alloc wr (.cells (cellsV x).toArray 74)), bx_new wr 74 (cellsV x).toArray⟩)
        have Q1 := hide (fun W => put32_ref x.pref.toNat x.pref.toNat_lt W)
        have Q2 := hide (fun W => put32_ref x.valid.toNat x.valid.toNat_lt W)
        have QA := hide (fun W => putAddr_ref fx W)
        have QS := hide (fun W => rstatusOption_any x.code sx3.1 sx3.2 W)
        have TM := hide (show timesI x = beL 4 x.pref.toNat ++ beL 4 x.valid.toNat from rfl)
        have b1 := beL_length 4 x.pref.toNat
        have b2 := beL_length 4 x.valid.toNat
        have tl := timesI_len x
        generalize beL 4 x.pref.toNat = l1 at *
        generalize beL 4 x.valid.toNat = l2 at *
        have N1 : ¬ 9223372036854775807 < l1.length + l2.length := by omega
        have TM2 := hide (show (ByteArray.mk l1.toArray ++ ByteArray.mk l2.toArray) = bs (timesI x) by rw [cat2, ← TM.out])
        clear hat hx HP b1 b2 TM
        go_wp2_with fail
        clear x1 x2 x3 x4 x5 x6 y0 y1 y2 y3 y4 y5
        generalize wr.alloc _ = w4 at *
        generalize wr.heap.size = bx at *
        refine wp_region_quiet (C := PXw w a (.slice (some ⟨b, o, none⟩) a.has.length c) bx x) (by kernel_rfl) (by kernel_rfl) (H4.out.step (Below.refl _ _).drew) (wpQuiet_step (fun K0 hK0 => ?_))
        go_simp
        first | (with_reducible refine hK0 _ (wpQuiet_step (fun K1 hK1 => ?_))) | (with_reducible refine ⟨_, fun _ _ => rfl, hK0 _ (wpQuiet_step (fun K1 hK1 => ?_))⟩) | (rw [if_neg (by intro e; cases e)]; with_reducible refine hK0 _ (wpQuiet_step (fun K1 hK1 => ?_)))
        clear hK0 K0
        go_simp
        refine ⟨.int .u32 (x.pref.toNat : Int), fun W hW => ?_, hK1 _ (wpQuiet_step (fun K0 hK0 => ?_))⟩
        · ((obtain ⟨z0, z1, z2, z3, z4, z5⟩ := in_cells hW.2; simp [go_sem, z3]))
        clear hK1 K1
        go_simp
        refine ⟨St l1, fun W hW => ?_, hK0 _ (wpQuiet_step (fun K1 hK1 => ?_))⟩
        · exact (Q1.out W).mono fun e w4 ⟨he, hb⟩ => ⟨he, PXw.step hW hb⟩
        clear hK0 K0
        go_simp
        first | (with_reducible refine hK1 _ (wpQuiet_step (fun K0 hK0 => ?_))) | (with_reducible refine ⟨_, fun _ _ => rfl, hK1 _ (wpQuiet_step (fun K0 hK0 => ?_))⟩) | (rw [if_neg (by intro e; cases e)]; with_reducible refine hK1 _ (wpQuiet_step (fun K0 hK0 => ?_)))
        clear hK1 K1
        go_simp
        refine ⟨.int .u32 (x.valid.toNat : Int), fun W hW => ?_, hK0 _ (wpQuiet_step (fun K1 hK1 => ?_))⟩
        · ((obtain ⟨z0, z1, z2, z3, z4, z5⟩ := in_cells hW.2; simp [go_sem, z4]))
        clear hK0 K0
        go_simp
        refine ⟨St l2, fun W hW => ?_, hK1 _ (wpQuiet_step (fun K0 hK0 => ?_))⟩
        · exact (Q2.out W).mono fun e w4 ⟨he, hb⟩ => ⟨he, PXw.step hW hb⟩
        clear hK1 K1
        go_simp
        first | (with_reducible refine hK0 _ (wpQuiet_step (fun K1 hK1 => ?_))) | (with_reducible refine ⟨_, fun _ _ => rfl, hK0 _ (wpQuiet_step (fun K1 hK1 => ?_))⟩) | (rw [if_neg (by intro e; cases e)]; with_reducible refine hK0 _ (wpQuiet_step (fun K1 hK1 => ?_)))
        clear hK0 K0
        go_simp
        first | (with_reducible refine hK1 _ (wpQuiet_nil ?_)) | (with_reducible refine ⟨_, fun _ _ => rfl, hK1 _ (wpQuiet_nil ?_)⟩) | (rw [if_neg (by intro e; cases e)]; with_reducible refine hK1 _ (wpQuiet_nil ?_))
        clear hK1 K1
        intro W5 H5
        rw [TM2.out]
        clear H4 TM2 Q1 Q2 N1
        have y0 := (ia_cells H5.1.2.1).1
        have QP := hide (fun (d : ByteArray) (hd : d.size ≤ 65535) (cc : UInt16) W => roption_any cc d hd W)
        have es6 : (emitL (statO x.code)).length ≤ 6 := by rw [emit_stat]; split <;> omega
        have la16 := beL_length 16 x.addr
        have PZ : putI a.kind x = (codeW a.kind, bs (headI a.kind x ++ emitL (statO x.code))) := rfl
        have HZ : headI a.kind x = if a.kind = 4 then timesI x ++ (UInt8.ofNat x.bits.toNat :: beL 16 x.addr) else beL 16 x.addr ++ timesI x := rfl
        have CZ : codeW a.kind = if a.kind = 4 then 26 else 5 := rfl
        rw [PZ] at TS
        have ol := optL_len (codeW a.kind, bs (headI a.kind x ++ emitL (statO x.code)))
        rw [show ((codeW a.kind, bs (headI a.kind x ++ emitL (statO x.code))) : Opt).2.size = (headI a.kind x).length + (emitL (statO x.code)).length by show (bs _).size = _; rw [bs_len, List.length_append]] at ol
        generalize emitL (statO x.code) = es at *
        generalize timesI x = tm at *
        generalize beL 16 x.addr = la at *
        go_upto_if 48 with fail
        by_cases h4 : a.kind = 4
        · have ek : (a.kind == 4) = true := by simpa using h4
          rw [if_pos h4] at HZ CZ
          rw [CZ, HZ] at TS ol
          obtain ⟨⟨bn0, bn1⟩, _⟩ := sound_iff.1 sx1
          have BB : x.bits % 256 = ((UInt8.ofNat x.bits.toNat).toNat : Int) := by
            rw [UInt8.toNat_ofNat']
            omega
          generalize UInt8.ofNat x.bits.toNat = bb at *
          have HB : (tm ++ bb :: la).length = 25 := by rw [List.length_append, List.length_cons]; omega
          have C1 := hide (show (bs tm ++ bs [bb]) = bs (tm ++ [bb]) from cat2 _ _)
          have C2 := hide (show (bs (tm ++ [bb]) ++ bs la) = bs (tm ++ bb :: la) by rw [cat2, List.append_assoc]; rfl)
          have C3 := hide (show (bs (tm ++ bb :: la) ++ bs es) = bs ((tm ++ bb :: la) ++ es) from cat2 _ _)
          have L1 : (tm ++ [bb]).length = 9 := by rw [List.length_append, tl]; rfl
          have L3 : ((tm ++ bb :: la) ++ es).length ≤ 31 := by rw [List.length_append]; omega
          have OP := hide (fun W => QP.out (bs ((tm ++ bb :: la) ++ es)) (by rw [bs_len]; omega) 26 W)
          generalize optL ((26 : UInt16), bs ((tm ++ bb :: la) ++ es)) = oo at *
          generalize hh2 : (tm ++ bb :: la) ++ es = h2 at *
          generalize hh1 : tm ++ bb :: la = h1 at *
          generalize hh0 : tm ++ [bb] = h0 at *
          have N1 : ¬ 9223372036854775807 < tm.length + 1 := by omega
          have N2 : ¬ 9223372036854775807 < h0.length + la.length := by omega
          have N3 : ¬ 9223372036854775807 < h1.length + es.length := by omega
          have N4 : ¬ 9223372036854775807 < pre.length + oo.length := by omega
          have C4 := hide (cat2 pre oo)
          clear h4 hh2 hh1 hh0 QP PZ HZ CZ s1 bn0 bn1 TL TK tl la16 HB L1 L3 es6 ol TZ
          have HX := hide H5
          clear H5
          go_wp2_with fail
          refine wp_region_relT 20 1 (PXw w a (.slice (some ⟨b, o, none⟩) a.has.length c) bx x) [some 49, some 50, some 51, some 52, some 53, some 54, some 55, some 56, some 57, some 58, some 59, some 60, some 61, some 62, some 63, some 64, some 65, some 66, some 67, some 68] [fun yy _ => yy = St pre, fun yy _ => yy = .string (bs tm), fun yy _ => yy = .pointer (some ⟨bx, 0, none⟩), fun yy _ => yy = .pointer (some ⟨bx, 2, none⟩), fun yy _ => yy = .int .i64 x.bits, fun yy _ => yy = .int .u8 (bb.toNat : Int), fun yy W => ∃ g, yy = .slice (some ⟨g, 0, none⟩) 1 1 ∧ OwnB W 0 (.slice (some ⟨g, 0, none⟩) 1 1) [bb], fun yy _ => yy = .string (bs [bb]), fun yy _ => yy = .string (bs h0), fun yy _ => yy = .pointer (some ⟨bx, 0, none⟩), fun yy _ => yy = .pointer (some ⟨bx, 0, none⟩), fun yy _ => yy = A x.addr, fun yy _ => yy = St la, fun yy _ => yy = .string (bs h1), fun yy _ => yy = .pointer (some ⟨bx, 5, none⟩), fun yy _ => yy = .int .i64 x.code, fun yy _ => yy = St es, fun yy _ => yy = .string (bs h2), fun yy _ => yy = St oo, fun yy _ => yy = .string (bs (pre ++ oo))] 92 (by kernel_rfl) rfl (by omega) (by kernel_rfl) (by kernel_rfl) rfl rfl (HX.out.step (Below.refl _ _).drew) ?_ ?_
          · refine ⟨⟨fun _ _ _ h _ => h, fun a' W K hD hC hd hf hK => ?_⟩, ⟨fun _ _ _ h _ => h, fun a' W K hD hC hd hf hK => ?_⟩, ⟨fun _ _ _ h _ => h, fun a' W K hD hC hd hf hK => ?_⟩, ⟨fun _ _ _ h _ => h, fun a' W K hD hC hd hf hK => ?_⟩, ⟨fun _ _ _ h _ => h, fun a' W K hD hC hd hf hK => ?_⟩, ⟨fun _ _ _ h _ => h, fun a' W K hD hC hd hf hK => ?_⟩, ⟨fun _ _ _ ⟨g, e, h⟩ hb => ⟨g, e, h.step hb⟩, fun a' W K hD hC hd hf hK => ?_⟩, ⟨fun _ _ _ h _ => h, fun a' W K hD hC hd hf hK => ?_⟩, ⟨fun _ _ _ h _ => h, fun a' W K hD hC hd hf hK => ?_⟩, ⟨fun _ _ _ h _ => h, fun a' W K hD hC hd hf hK => ?_⟩, ⟨fun _ _ _ h _ => h, fun a' W K hD hC hd hf hK => ?_⟩, ⟨fun _ _ _ h _ => h, fun a' W K hD hC hd hf hK => ?_⟩, ⟨fun _ _ _ h _ => h, fun a' W K hD hC hd hf hK => ?_⟩, ⟨fun _ _ _ h _ => h, fun a' W K hD hC hd hf hK => ?_⟩, ⟨fun _ _ _ h _ => h, fun a' W K hD hC hd hf hK => ?_⟩, ⟨fun _ _ _ h _ => h, fun a' W K hD hC hd hf hK => ?_⟩, ⟨fun _ _ _ h _ => h, fun a' W K hD hC hd hf hK => ?_⟩, ⟨fun _ _ _ h _ => h, fun a' W K hD hC hd hf hK => ?_⟩, ⟨fun _ _ _ h _ => h, fun a' W K hD hC hd hf hK => ?_⟩, ⟨fun _ _ _ h _ => h, fun a' W K hD hC hd hf hK => ?_⟩, trivial⟩
            · refine op_plain rfl ?_
              have f4 : a'.tmps[4]?.getD undef = St pre := (hf.out 4 (by kernel_rfl)).trans (by simp)
              go_simp
              exact hK.out _ _ hC (Below.refl _ _) rfl
            · refine op_plain rfl ?_
              have f7 : a'.tmps[7]?.getD undef = .string (bs tm) := (hf.out 7 (by kernel_rfl)).trans (by simp)
              go_simp
              exact hK.out _ _ hC (Below.refl _ _) rfl
            · refine op_plain rfl ?_
              have f6 : a'.tmps[6]?.getD undef = .pointer (some ⟨bx, 0, none⟩) := (hf.out 6 (by kernel_rfl)).trans (by simp)
              go_simp
              exact hK.out _ _ hC (Below.refl _ _) rfl
            · refine op_plain rfl ?_
              have d51 : a'.tmps[51]?.getD undef = .pointer (some ⟨bx, 0, none⟩) := hd.out 2 51 (by kernel_rfl) rfl
              go_simp
              exact hK.out _ _ hC (Below.refl _ _) rfl
            · refine op_plain rfl ?_
              have d52 : a'.tmps[52]?.getD undef = .pointer (some ⟨bx, 2, none⟩) := hd.out 3 52 (by kernel_rfl) rfl
              obtain ⟨z0, z1, z2, z3, z4, z5⟩ := in_cells (id hC).2
              go_simp
              exact hK.out _ _ hC (Below.refl _ _) rfl
            · refine op_plain rfl ?_
              have d53 : a'.tmps[53]?.getD undef = .int .i64 x.bits := hd.out 4 53 (by kernel_rfl) rfl
              go_simp
              exact hK.out _ _ hC (Below.refl _ _) (congrArg (Value.int .u8) BB)
            · refine op_plain rfl ?_
              have d54 : a'.tmps[54]?.getD undef = .int .u8 (bb.toNat : Int) := hd.out 5 54 (by kernel_rfl) rfl
              go_simp
              exact hK.out _ _ (hC.step (below_alloc _ _)) (below_alloc _ _) ⟨_, rfl, World.ownsRow_lit (base := 0) (e := 5) (size := 1) W #[byteV bb] 1 (Nat.zero_le _) (by unfold maxLen; omega) rfl⟩
            · refine op_plain rfl ?_
              have d55 := hd.out 6 55 (by kernel_rfl) rfl
              obtain ⟨g, e55, L5⟩ := d55
              have CV := conv_bytes L5 rfl
              clear L5
              go_simp
              exact hK.out _ _ hC (Below.refl _ _) rfl
            · refine op_plain rfl ?_
              have d50 : a'.tmps[50]?.getD undef = .string (bs tm) := hd.out 1 50 (by kernel_rfl) rfl
              have d56 : a'.tmps[56]?.getD undef = .string (bs [bb]) := hd.out 7 56 (by kernel_rfl) rfl
              go_simp
              exact hK.out _ _ hC (Below.refl _ _) (congrArg Value.string C1.out)
            · refine op_plain rfl ?_
              have f6 : a'.tmps[6]?.getD undef = .pointer (some ⟨bx, 0, none⟩) := (hf.out 6 (by kernel_rfl)).trans (by simp)
              go_simp
              exact hK.out _ _ hC (Below.refl _ _) rfl
            · refine op_plain rfl ?_
              have d58 : a'.tmps[58]?.getD undef = .pointer (some ⟨bx, 0, none⟩) := hd.out 9 58 (by kernel_rfl) rfl
              go_simp
              exact hK.out _ _ hC (Below.refl _ _) rfl
            · refine op_plain rfl ?_
              have d59 : a'.tmps[59]?.getD undef = .pointer (some ⟨bx, 0, none⟩) := hd.out 10 59 (by kernel_rfl) rfl
              obtain ⟨z0, z1, z2, z3, z4, z5⟩ := in_cells (id hC).2
              go_simp
              exact hK.out _ _ hC (Below.refl _ _) rfl
            · refine op_plain rfl ?_
              have d60 : a'.tmps[60]?.getD undef = A x.addr := hd.out 11 60 (by kernel_rfl) rfl
              go_simp
              go_at_call 44
              refine (QA.out W).mono ?_
              rintro e w6 ⟨rfl, hb6⟩
              exact hK.out _ _ (hC.step hb6) hb6 rfl
            · refine op_plain rfl ?_
              have d57 : a'.tmps[57]?.getD undef = .string (bs h0) := hd.out 8 57 (by kernel_rfl) rfl
              have d61 : a'.tmps[61]?.getD undef = St la := hd.out 12 61 (by kernel_rfl) rfl
              go_simp
              exact hK.out _ _ hC (Below.refl _ _) (congrArg Value.string C2.out)
            · refine op_plain rfl ?_
              have f6 : a'.tmps[6]?.getD undef = .pointer (some ⟨bx, 0, none⟩) := (hf.out 6 (by kernel_rfl)).trans (by simp)
              go_simp
              exact hK.out _ _ hC (Below.refl _ _) rfl
            · refine op_plain rfl ?_
              have d63 : a'.tmps[63]?.getD undef = .pointer (some ⟨bx, 5, none⟩) := hd.out 14 63 (by kernel_rfl) rfl
              obtain ⟨z0, z1, z2, z3, z4, z5⟩ := in_cells (id hC).2
              go_simp
              exact hK.out _ _ hC (Below.refl _ _) rfl
            · refine op_plain rfl ?_
              have d64 : a'.tmps[64]?.getD undef = .int .i64 x.code := hd.out 15 64 (by kernel_rfl) rfl
              go_simp
              go_at_call 45
              refine (QS.out W).mono ?_
              rintro e w6 ⟨rfl, hb6⟩
              exact hK.out _ _ (hC.step hb6) hb6 rfl
            · refine op_plain rfl ?_
              have d62 : a'.tmps[62]?.getD undef = .string (bs h1) := hd.out 13 62 (by kernel_rfl) rfl
              have d65 : a'.tmps[65]?.getD undef = St es := hd.out 16 65 (by kernel_rfl) rfl
              go_simp
              exact hK.out _ _ hC (Below.refl _ _) (congrArg Value.string C3.out)
            · refine op_plain rfl ?_
              have d66 : a'.tmps[66]?.getD undef = .string (bs h2) := hd.out 17 66 (by kernel_rfl) rfl
              go_simp
              go_at_call 43
              refine (OP.out W).mono ?_
              rintro e w6 ⟨rfl, hb6⟩
              exact hK.out _ _ (hC.step hb6) hb6 rfl
            · refine op_plain rfl ?_
              have d49 : a'.tmps[49]?.getD undef = St pre := hd.out 0 49 (by kernel_rfl) rfl
              have d67 : a'.tmps[67]?.getD undef = St oo := hd.out 18 67 (by kernel_rfl) rfl
              go_simp
              exact hK.out _ _ hC (Below.refl _ _) (congrArg Value.string C4.out)
          · intro us W6 hC hR
            have q0 : us 0 = St pre := hR.out 0 (by decide)
            have q1 : us 1 = .string (bs tm) := hR.out 1 (by decide)
            have q2 : us 2 = .pointer (some ⟨bx, 0, none⟩) := hR.out 2 (by decide)
            have q3 : us 3 = .pointer (some ⟨bx, 2, none⟩) := hR.out 3 (by decide)
            have q4 : us 4 = .int .i64 x.bits := hR.out 4 (by decide)
            have q5 : us 5 = .int .u8 (bb.toNat : Int) := hR.out 5 (by decide)
            have r6 := hR.out 6 (by decide)
            generalize hq6 : us 6 = q6 at *
            change (fun yy W => ∃ g, yy = .slice (some ⟨g, 0, none⟩) 1 1 ∧ OwnB W 0 (.slice (some ⟨g, 0, none⟩) 1 1) [bb]) q6 W6 at r6
            have q7 : us 7 = .string (bs [bb]) := hR.out 7 (by decide)
            have q8 : us 8 = .string (bs h0) := hR.out 8 (by decide)
            have q9 : us 9 = .pointer (some ⟨bx, 0, none⟩) := hR.out 9 (by decide)
            have q10 : us 10 = .pointer (some ⟨bx, 0, none⟩) := hR.out 10 (by decide)
            have q11 : us 11 = A x.addr := hR.out 11 (by decide)
            have q12 : us 12 = St la := hR.out 12 (by decide)
            have q13 : us 13 = .string (bs h1) := hR.out 13 (by decide)
            have q14 : us 14 = .pointer (some ⟨bx, 5, none⟩) := hR.out 14 (by decide)
            have q15 : us 15 = .int .i64 x.code := hR.out 15 (by decide)
            have q16 : us 16 = St es := hR.out 16 (by decide)
            have q17 : us 17 = .string (bs h2) := hR.out 17 (by decide)
            have q18 : us 18 = St oo := hR.out 18 (by decide)
            have q19 : us 19 = .string (bs (pre ++ oo)) := hR.out 19 (by decide)
            simp only [List.drop_succ_cons, List.drop_zero, fillF, Act.put, List.setIfInBounds_toArray, List.set_cons_zero, List.set_cons_succ, Nat.reduceAdd, q0, q1, q2, q3, q4, q5, hq6, q7, q8, q9, q10, q11, q12, q13, q14, q15, q16, q17, q18, q19]
            clear hR q0 q1 q2 q3 q4 q5 hq6 q7 q8 q9 q10 q11 q12 q13 q14 q15 q16 q17 q18 q19
            have H7 := hide hC.1
            clear hC HX r6
            go_wp2
            go_roundw
            case rel => exact ⟨k + 1, hlt, by go_num, by rw [TS.out], H7⟩
            case measure => simp [intOf]; omega
        · have ek : (a.kind == 4) = false := by simpa using h4
          rw [if_neg h4] at HZ CZ
          rw [CZ, HZ] at TS ol
          have C1 := hide (show ((bs la ++ bs tm) ++ bs es) = bs ((la ++ tm) ++ es) by rw [cat2, cat2])
          have L3 : ((la ++ tm) ++ es).length ≤ 31 := by rw [List.length_append, List.length_append]; omega
          have LT : (la ++ tm).length = 24 := by rw [List.length_append]; omega
          have OP := hide (fun W => QP.out ((bs la ++ bs tm) ++ bs es) (by rw [C1.out, bs_len]; omega) 5 W)
          rw [C1.out] at OP
          generalize optL ((5 : UInt16), bs ((la ++ tm) ++ es)) = oo at *
          rw [← C1.out] at OP
          have N1 : ¬ 9223372036854775807 < la.length + tm.length := by omega
          have N2 : ¬ 9223372036854775807 < la.length + tm.length + es.length := by omega
          have N4 : ¬ 9223372036854775807 < pre.length + oo.length := by omega
          have C4 := hide (cat2 pre oo)
          clear h4 QP PZ HZ CZ s1 TL TK C1 tl la16 L3 LT es6 ol TZ
          go_wp2_with fail
          refine wp_region_quiet (C := PXw w a (.slice (some ⟨b, o, none⟩) a.has.length c) bx x) (by kernel_rfl) (by kernel_rfl) (H5.step (Below.refl _ _).drew) (wpQuiet_step (fun K0 hK0 => ?_))
          go_simp
          first | (with_reducible refine hK0 _ (wpQuiet_step (fun K1 hK1 => ?_))) | (with_reducible refine ⟨_, fun _ _ => rfl, hK0 _ (wpQuiet_step (fun K1 hK1 => ?_))⟩) | (rw [if_neg (by intro e; cases e)]; with_reducible refine hK0 _ (wpQuiet_step (fun K1 hK1 => ?_)))
          clear hK0 K0
          go_simp
          first | (with_reducible refine hK1 _ (wpQuiet_step (fun K0 hK0 => ?_))) | (with_reducible refine ⟨_, fun _ _ => rfl, hK1 _ (wpQuiet_step (fun K0 hK0 => ?_))⟩) | (rw [if_neg (by intro e; cases e)]; with_reducible refine hK1 _ (wpQuiet_step (fun K0 hK0 => ?_)))
          clear hK1 K1
          go_simp
          first | (with_reducible refine hK0 _ (wpQuiet_step (fun K1 hK1 => ?_))) | (with_reducible refine ⟨_, fun _ _ => rfl, hK0 _ (wpQuiet_step (fun K1 hK1 => ?_))⟩) | (rw [if_neg (by intro e; cases e)]; with_reducible refine hK0 _ (wpQuiet_step (fun K1 hK1 => ?_)))
          clear hK0 K0
          go_simp
          refine ⟨A x.addr, fun W hW => ?_, hK1 _ (wpQuiet_step (fun K0 hK0 => ?_))⟩
          · ((obtain ⟨z0, z1, z2, z3, z4, z5⟩ := in_cells hW.2; simp [go_sem, z0, z1]))
          clear hK1 K1
          go_simp
          refine ⟨St la, fun W hW => ?_, hK0 _ (wpQuiet_step (fun K1 hK1 => ?_))⟩
          · exact (QA.out W).mono fun e w4 ⟨he, hb⟩ => ⟨he, PXw.step hW hb⟩
          clear hK0 K0
          go_simp
          first | (with_reducible refine hK1 _ (wpQuiet_step (fun K0 hK0 => ?_))) | (with_reducible refine ⟨_, fun _ _ => rfl, hK1 _ (wpQuiet_step (fun K0 hK0 => ?_))⟩) | (rw [if_neg (by intro e; cases e)]; with_reducible refine hK1 _ (wpQuiet_step (fun K0 hK0 => ?_)))
          clear hK1 K1
          go_simp
          first | (with_reducible refine hK0 _ (wpQuiet_step (fun K1 hK1 => ?_))) | (with_reducible refine ⟨_, fun _ _ => rfl, hK0 _ (wpQuiet_step (fun K1 hK1 => ?_))⟩) | (rw [if_neg (by intro e; cases e)]; with_reducible refine hK0 _ (wpQuiet_step (fun K1 hK1 => ?_)))
          clear hK0 K0
          go_simp
          first | (with_reducible refine hK1 _ (wpQuiet_step (fun K0 hK0 => ?_))) | (with_reducible refine ⟨_, fun _ _ => rfl, hK1 _ (wpQuiet_step (fun K0 hK0 => ?_))⟩) | (rw [if_neg (by intro e; cases e)]; with_reducible refine hK1 _ (wpQuiet_step (fun K0 hK0 => ?_)))
          clear hK1 K1
          go_simp
          refine ⟨.int .i64 x.code, fun W hW => ?_, hK0 _ (wpQuiet_step (fun K1 hK1 => ?_))⟩
          · ((obtain ⟨z0, z1, z2, z3, z4, z5⟩ := in_cells hW.2; simp [go_sem, z5]))
          clear hK0 K0
          go_simp
          refine ⟨St es, fun W hW => ?_, hK1 _ (wpQuiet_step (fun K0 hK0 => ?_))⟩
          · exact (QS.out W).mono fun e w4 ⟨he, hb⟩ => ⟨he, PXw.step hW hb⟩
          clear hK1 K1
          go_simp
          first | (with_reducible refine hK0 _ (wpQuiet_step (fun K1 hK1 => ?_))) | (with_reducible refine ⟨_, fun _ _ => rfl, hK0 _ (wpQuiet_step (fun K1 hK1 => ?_))⟩) | (rw [if_neg (by intro e; cases e)]; with_reducible refine hK0 _ (wpQuiet_step (fun K1 hK1 => ?_)))
          clear hK0 K0
          go_simp
          refine ⟨St oo, fun W hW => ?_, hK1 _ (wpQuiet_step (fun K0 hK0 => ?_))⟩
          · exact (OP.out W).mono fun e w4 ⟨he, hb⟩ => ⟨he, PXw.step hW hb⟩
          clear hK1 K1
          go_simp
          first | (with_reducible refine hK0 _ (wpQuiet_step (fun K1 hK1 => ?_))) | (with_reducible refine ⟨_, fun _ _ => rfl, hK0 _ (wpQuiet_step (fun K1 hK1 => ?_))⟩) | (rw [if_neg (by intro e; cases e)]; with_reducible refine hK0 _ (wpQuiet_step (fun K1 hK1 => ?_)))
          clear hK0 K0
          go_simp
          first | (with_reducible refine hK1 _ (wpQuiet_nil ?_)) | (with_reducible refine ⟨_, fun _ _ => rfl, hK1 _ (wpQuiet_nil ?_)⟩) | (rw [if_neg (by intro e; cases e)]; with_reducible refine hK1 _ (wpQuiet_nil ?_))
          clear hK1 K1
          intro W6 H6
          rw [C4.out]
          have H7 := hide H6.1
          clear H6 H5
          go_wp2
          go_roundw
          case rel => exact ⟨k + 1, hlt, by go_num, by rw [TS.out], H7⟩
          case measure => simp [intOf]; omega
      · have : k = a.has.length := by omega
        subst this
        have TL := emit_map_len (a := a) a.has.length
        rw [List.take_length] at TL ⊢
        have TE := hide (show (headA a ++ emitL (a.has.map (putI a.kind))) ++ emitL (statO a.code) = headA a ++ emitL (heldA a) by unfold heldA; rw [emitL_append, List.append_assoc])
        have TZ : (headA a ++ emitL (a.has.map (putI a.kind))).length ≤ 1000000 := by rw [List.length_append]; omega
        have QS := hide (fun W => rstatusOption_any a.code s3.1 s3.2 W)
        have es6 : (emitL (statO a.code)).length ≤ 6 := by rw [emit_stat]; split <;> omega
        generalize headA a ++ emitL (heldA a) = fin at *
        generalize headA a ++ emitL (a.has.map (putI a.kind)) = pre at *
        generalize emitL (statO a.code) = es at *
        have N1 : ¬ 9223372036854775807 < pre.length + es.length := by omega
        have C4 := hide (show bs pre ++ bs es = bs fin by rw [← TE.out]; exact cat2 _ _)
        clear TL TZ es6 s1 s2 s3 lh sz hlt TE
        go_wp2_with fail
        refine (QS.out _).mono ?_
        rintro e w5 ⟨rfl, hb5⟩
        have H5 := hide (HP.out.step hb5)
        clear hb5 HP y0 y1 y2 y3 y4 y5 QS
        have y0 := (ia_cells H5.out.2.1).1
        go_wp2_with fail
        refine (CO.out _).mono ?_
        rintro e w6 ⟨rfl, hb6⟩
        have H6 := hide (H5.out.step hb6)
        clear hb6 H5 y0 CO
        go_wp2_with (refine wpList_store_bx rfl (.tmp 2) (.tmp 91) rfl (w.heap.size + 1) _ _ H6.out.2.2 rfl rfl infoZ rfl rfl ?_; intro w7 G7 F7)
        have g0 := G7.cell 0
        have g1 := G7.cell 1
        have D7 := hide (show Below w.heap.size w w7 from H6.out.1.trans (F7.below H6.out.1.size (fun k e => by omega)))
        have EE := hide E.out.1
        have EO := hide E.out.2
        simp at g0 g1
        clear E H6 F7 G7
        refine bodyPost_ret (v := .tuple #[.agg #[.int .u16 ((codeK a.kind).toNat : Int), .string (bs pre ++ bs es)], .int .i64 0]) (by simp [results, Try.results20, go_sem, g0, g1]) rfl ⟨?_, D7.out⟩
        rw [EE.out, EO.out, C4.out]
theorem rputIA_any (a : IA) (hf : FitA a) {v : Value} (hl : a.has.length * 40 ≤ 140737488355328) (w : World) (hv : LstI v a.has w) :
    Calls Try.prog 20 #[AV a v] w (Gives (.tuple #[OV (puO a), .int .i64 (puE a)]) w) := by
  cases hs : soundA a with
  | true => exact rputIA_yes a hf hs hl w hv
  | false => exact rputIA_no a hf hs hl w hv
end Go.Proofs.Ytcpldojgmboipaa
