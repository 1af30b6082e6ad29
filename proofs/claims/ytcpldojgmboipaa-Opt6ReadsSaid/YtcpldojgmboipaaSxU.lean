/-
  The contract of PutIA. Conditions: a row takes at most 2^47 bytes; an address is one of 128 bits.
-/
import Derived.Test.YtcpldojgmboipaaSxT
import Derived.Deep.DeepCutAuto
namespace Go.Proofs.Ytcpldojgmboipaa
open Go.RowKit Go.Joins

/-- what PutIA answers -/
def puE (a : IA) : Int := if soundA a = true then 0 else 130
def puO (a : IA) : Opt := if soundA a = true then putA a else (0, ⟨#[]⟩)
/-- the memory of PutIA: its two boxes -/
def PAw (w : World) (a : IA) (v : Value) (W : World) : Prop := Below w.heap.size w W ∧ Bx w.heap.size 37 (cellsA a v) W ∧ Bx (w.heap.size + 1) 40 #[.int .u16 0, .string ⟨#[]⟩] W
theorem PAw.step {w : World} {a : IA} {v : Value} {W W2 : World} (h : PAw w a v W) (hb : Below W.heap.size W W2) : PAw w a v W2 := ⟨chain h.1 hb, h.2.1.step hb, h.2.2.step hb⟩
theorem PAw.fr {S : Nat → Prop} {w : World} {a : IA} {v : Value} {W W2 : World} (h : PAw w a v W) (hb : Fr S W W2) (hS : ∀ k, S k → w.heap.size + 2 ≤ k) : PAw w a v W2 :=
  ⟨h.1.trans (hb.below h.1.size (fun k e => by have := hS k e; omega)), h.2.1.fr hb (fun e => by have := hS _ e; omega), h.2.2.fr hb (fun e => by have := hS _ e; omega)⟩
theorem pa_new (w : World) (a : IA) (v : Value) : PAw w a v ((w.alloc (.cells (cellsA a v) 37)).alloc (.cells #[.int .u16 0, .string ⟨#[]⟩] 40)) := by
  have B := below_alloc w (.cells (cellsA a v) 37)
  have B2 := below_alloc (w.alloc (.cells (cellsA a v) 37)) (.cells #[.int .u16 0, .string ⟨#[]⟩] 40)
  refine ⟨chain B B2, (bx_new w _ _).step B2, ?_⟩
  have := bx_new (w.alloc (.cells (cellsA a v) 37)) 40 #[.int .u16 0, .string ⟨#[]⟩]
  simpa using this
theorem ia_cells {b : Nat} {a : IA} {v : Value} {W : World} (h : Bx b 37 (cellsA a v) W) : W.cell? ⟨b, 0, none⟩ = some (.int .i64 a.kind) ∧ W.cell? ⟨b, 1, none⟩ = some (.int .u32 (a.iaid.toNat : Int)) ∧ W.cell? ⟨b, 2, none⟩ = some (.int .u32 (a.t1.toNat : Int)) ∧ W.cell? ⟨b, 3, none⟩ = some (.int .u32 (a.t2.toNat : Int)) ∧ W.cell? ⟨b, 4, none⟩ = some v ∧ W.cell? ⟨b, 5, none⟩ = some (.int .i64 a.code) :=
  ⟨h.cell 0, h.cell 1, h.cell 2, h.cell 3, h.cell 4, h.cell 5⟩
theorem own_ge {w : World} {base size n : Nat} {e : TypeId} {v : Value} {xs : List Value} (h : w.ownsRow base e size v n xs) (k : Nat) (hk : some k = v.ownBlock) : base ≤ k := by
  rcases h.2 with ⟨rfl, _⟩ | ⟨g, cap, cur, rfl, hb, _⟩
  · cases hk
  · cases hk; exact hb
set_option maxRecDepth 100000 in
set_option maxHeartbeats 4000000 in
theorem putIA_no (a : IA) (hf : FitA a) (hs : soundA a = false) {v : Value} (hl : a.has.length * 40 ≤ 140737488355328) (w : World) (hv : LstI v a.has w) :
    Calls Try.prog 19 #[AV a v] w (Gives (.tuple #[OV (puO a), .int .i64 (puE a)]) w) := by
  have SO := hide (fun W (hb : Below w.heap.size w W) => asound_any a hf hl W (hv.step hb))
  rw [hs] at SO
  have E := hide (show puE a = 130 ∧ puO a = (0, ⟨#[]⟩) by unfold puE puO; rw [hs]; exact ⟨rfl, rfl⟩)
  have H0 := hide (pa_new w a v)
  clear hs hf hv
  go_enter Try.func19, Try.ntmps19
  go_wp2_with fail
  refine (SO.out _ H0.out.1).mono ?_
  rintro e w1 ⟨rfl, hb1⟩
  have H1 := hide (H0.out.step hb1)
  clear hb1 H0 SO
  go_wp2_with (refine wpList_store_bx rfl (.tmp 2) (.tmp 13) rfl (w.heap.size + 1) _ _ H1.out.2.2 rfl rfl infoZ rfl rfl ?_; intro w7 G7 F7)
  have g0 := G7.cell 0
  have g1 := G7.cell 1
  have D7 := hide (show Below w.heap.size w w7 from H1.out.1.trans (F7.below H1.out.1.size (fun k e => by omega)))
  have EE := hide E.out.1
  have EO := hide E.out.2
  simp at g0 g1
  clear E H1 F7 G7
  refine bodyPost_ret (v := .tuple #[.agg #[.int .u16 0, .string ⟨#[]⟩], .int .i64 130]) (by simp [results, Try.results19, go_sem, g0, g1]) rfl ⟨?_, D7.out⟩
  rw [EE.out, EO.out]; rfl
set_option maxRecDepth 100000 in
set_option maxHeartbeats 4000000 in
theorem putIA_yes (a : IA) (hf : FitA a) (hs : soundA a = true) {v : Value} (hl : a.has.length * 40 ≤ 140737488355328) (w : World) (hv : LstI v a.has w) :
    Calls Try.prog 19 #[AV a v] w (Gives (.tuple #[OV (puO a), .int .i64 (puE a)]) w) := by
  have SO := hide (fun W (hb : Below w.heap.size w W) => asound_any a hf hl W (hv.step hb))
  rw [hs] at SO
  obtain ⟨s1, s2, s3, s4, s5⟩ := soundA_iff.1 hs
  have E := hide (show puE a = 0 ∧ puO a = (codeK a.kind, bs (headA a ++ emitL (heldA a))) by unfold puE puO; rw [hs]; exact ⟨rfl, rfl⟩)
  have H0 := hide (pa_new w a v)
  have CO := hide (fun W => codeOf_any a.kind W)
  rw [codeN_K (kindO_iff.2 s1), kindO_iff.2 s1] at CO
  have P0 := hide (fun W => put32_any a.iaid.toNat a.iaid.toNat_lt W)
  have P1 := hide (fun W => put32_any a.t1.toNat a.t1.toNat_lt W)
  have P2 := hide (fun W => put32_any a.t2.toNat a.t2.toNat_lt W)
  have PI := hide (fun x (hx : x ∈ a.has) W => putInner_any a.kind x (hf x hx) (s5 x hx) W)
  have HV := hide (fun W (H : Below w.heap.size w W) => hv.step H)
  have hcap : ∃ p c, v = .slice p a.has.length c ∧ a.has.length ≤ c := by
    obtain ⟨p, c, rfl⟩ := lstI_len hv
    exact ⟨p, c, rfl, (lstI_cap hv).2.1⟩
  have okH := okO_held a
  have lenH := held_len s2
  have HD := hide (show headA a = if a.kind = 3 then beL 4 a.iaid.toNat else beL 4 a.iaid.toNat ++ (beL 4 a.t1.toNat ++ beL 4 a.t2.toNat) from rfl)
  have lh := headA_len a
  have sz : sizeA a.kind ≤ 12 := by unfold sizeA; split <;> omega
  have ls : (statO a.code).length ≤ 1 := statO_len _
  clear hs hf hv s4 s5
  go_enter Try.func19, Try.ntmps19
  go_wp2_with fail
  refine (SO.out _ H0.out.1).mono ?_
  rintro e w1 ⟨rfl, hb1⟩
  have H1 := hide (H0.out.step hb1)
  clear hb1 H0 SO
  have y0 := (ia_cells H1.out.2.1).1
  go_wp2_with fail
  refine (CO.out _).mono ?_
  rintro e w2 ⟨rfl, rfl⟩
  have y1 := (ia_cells H1.out.2.1).2.1
  go_wp2_with fail
  refine (P0.out _).mono ?_
  rintro e w3 ⟨rfl, hb3⟩
  have H3 := hide (H1.out.step hb3)
  clear hb3 H1 y0 y1 CO P0
  have y0 := (ia_cells H3.out.2.1).1
  go_upto_if 25 with fail
  go_cut [6] (fun s6 wx => s6 = .string ⟨(headA a).toArray⟩ ∧ PAw w a v wx)
  case first =>
    by_cases hk : a.kind = 3
    · have ek : (a.kind != 3) = false := by simpa using hk
      rw [if_pos hk] at HD
      clear hk s1
      go_wp2
      go_meet
      exact ⟨by rw [HD.out], H3.out⟩
    · have ek : (a.kind != 3) = true := by simpa using hk
      rw [if_neg hk] at HD
      have b0 := beL_length 4 a.iaid.toNat
      have b1 := beL_length 4 a.t1.toNat
      have b2 := beL_length 4 a.t2.toNat
      generalize beL 4 a.iaid.toNat = l0 at *
      generalize beL 4 a.t1.toNat = l1 at *
      generalize beL 4 a.t2.toNat = l2 at *
      obtain ⟨l3, e3⟩ : ∃ l3, l1 ++ l2 = l3 := ⟨_, rfl⟩
      rw [e3] at HD
      have n3 : l3.length = l1.length + l2.length := by rw [← e3]; simp
      have CT := hide (show (ByteArray.mk l1.toArray ++ ByteArray.mk l2.toArray) = ⟨l3.toArray⟩ from (cat2 _ _).trans (congrArg bs e3))
      have N1 : ¬ 9223372036854775807 < l1.length + l2.length := by omega
      have N2 : ¬ 9223372036854775807 < l0.length + (l1.length + l2.length) := by omega
      clear hk s1 e3 n3 b0 b1 b2
      go_wp2_with fail
      refine wp_region_quiet (C := PAw w a v) (by kernel_rfl) (by kernel_rfl) (H3.out.step (Below.refl _ _).drew) (wpQuiet_step (fun K0 hK0 => ?_))
      go_simp
      first | (with_reducible refine hK0 _ (wpQuiet_step (fun K1 hK1 => ?_))) | (with_reducible refine ⟨_, fun _ _ => rfl, hK0 _ (wpQuiet_step (fun K1 hK1 => ?_))⟩) | (rw [if_neg (by intro e; cases e)]; with_reducible refine hK0 _ (wpQuiet_step (fun K1 hK1 => ?_)))
      clear hK0 K0
      go_simp
      first | (with_reducible refine hK1 _ (wpQuiet_step (fun K0 hK0 => ?_))) | (with_reducible refine ⟨_, fun _ _ => rfl, hK1 _ (wpQuiet_step (fun K0 hK0 => ?_))⟩) | (rw [if_neg (by intro e; cases e)]; with_reducible refine hK1 _ (wpQuiet_step (fun K0 hK0 => ?_)))
      clear hK1 K1
      go_simp
      refine ⟨.int .u32 (a.t1.toNat : Int), fun W hW => ?_, hK0 _ (wpQuiet_step (fun K1 hK1 => ?_))⟩
      · ((obtain ⟨x0, x1, x2, x3, x4, x5⟩ := ia_cells hW.2.1; simp [go_sem, x2]))
      clear hK0 K0
      go_simp
      refine ⟨St l1, fun W hW => ?_, hK1 _ (wpQuiet_step (fun K0 hK0 => ?_))⟩
      · exact (P1.out W).mono fun e w4 ⟨he, hb⟩ => ⟨he, PAw.step hW hb⟩
      clear hK1 K1
      go_simp
      first | (with_reducible refine hK0 _ (wpQuiet_step (fun K1 hK1 => ?_))) | (with_reducible refine ⟨_, fun _ _ => rfl, hK0 _ (wpQuiet_step (fun K1 hK1 => ?_))⟩) | (rw [if_neg (by intro e; cases e)]; with_reducible refine hK0 _ (wpQuiet_step (fun K1 hK1 => ?_)))
      clear hK0 K0
      go_simp
      refine ⟨.int .u32 (a.t2.toNat : Int), fun W hW => ?_, hK1 _ (wpQuiet_step (fun K0 hK0 => ?_))⟩
      · ((obtain ⟨x0, x1, x2, x3, x4, x5⟩ := ia_cells hW.2.1; simp [go_sem, x3]))
      clear hK1 K1
      go_simp
      refine ⟨St l2, fun W hW => ?_, hK0 _ (wpQuiet_step (fun K1 hK1 => ?_))⟩
      · exact (P2.out W).mono fun e w4 ⟨he, hb⟩ => ⟨he, PAw.step hW hb⟩
      clear hK0 K0
      go_simp
      first | (with_reducible refine hK1 _ (wpQuiet_step (fun K0 hK0 => ?_))) | (with_reducible refine ⟨_, fun _ _ => rfl, hK1 _ (wpQuiet_step (fun K0 hK0 => ?_))⟩) | (rw [if_neg (by intro e; cases e)]; with_reducible refine hK1 _ (wpQuiet_step (fun K0 hK0 => ?_)))
      clear hK1 K1
      go_simp
      first | (with_reducible refine hK0 _ (wpQuiet_step (fun K1 hK1 => ?_))) | (with_reducible refine ⟨_, fun _ _ => rfl, hK0 _ (wpQuiet_step (fun K1 hK1 => ?_))⟩) | (rw [if_neg (by intro e; cases e)]; with_reducible refine hK0 _ (wpQuiet_step (fun K1 hK1 => ?_)))
      clear hK0 K0
      go_simp
      first | (with_reducible refine hK1 _ (wpQuiet_nil ?_)) | (with_reducible refine ⟨_, fun _ _ => rfl, hK1 _ (wpQuiet_nil ?_)⟩) | (rw [if_neg (by intro e; cases e)]; with_reducible refine hK1 _ (wpQuiet_nil ?_))
      clear hK1 K1
      intro W5 H5
      go_wp2
      go_meet
      exact ⟨by rw [HD.out, CT.out]; exact congrArg Value.string (cat2 l0 l3), H5⟩
  case rest =>
    obtain ⟨rfl, HC⟩ := hcut
    obtain ⟨p, c, rfl, hcl⟩ := hcap
    have HC0 := hide HC
    have y4 := (ia_cells HC.2.1).2.2.2.2.1
    have O0 := hide (show OwnO wc (w.heap.size + 2) (.slice none 0 0) ((a.has.take 0).map (putI a.kind)) from ownO_nil _ _)
    clear HC H3 P1 P2 HD
    go_wp2_with fail
    clear y4
    go_loopw [7, 38] (fun vr vi wr => ∃ k : Nat, k ≤ a.has.length ∧ vi = .int .i64 (k : Nat) ∧ Hid (OwnO wr (w.heap.size + 2) vr ((a.has.take k).map (putI a.kind))) ∧ Hid (PAw w a (.slice p a.has.length c) wr)) (fun _ vi _ => a.has.length - (intOf vi).toNat)
    case atStart => exact ⟨0, Nat.zero_le _, rfl, O0, HC0⟩
    case round =>
      obtain ⟨k, hk, rfl, HO, HP⟩ := hrel
      clear O0 HC0
      by_cases hlt : k < a.has.length
      · obtain ⟨x, hx⟩ := getI_some hlt
        obtain ⟨b, o, rfl, _, hat⟩ := lstI_at (HV.out _ HP.out.1) hx
        obtain ⟨x1, x2, x3, x4, x5, x6⟩ := hat.cells
        have kc : k ≤ c := by omega
        have PX := hide (fun W => PI.out x (List.mem_of_getElem? hx) W)
        have TK := hide (show (a.has.take (k + 1)).map (putI a.kind) = (a.has.take k).map (putI a.kind) ++ [putI a.kind x] by rw [List.take_add_one, hx]; simp)
        have TL := hide (show ((a.has.take k).map (putI a.kind)).length = k by rw [List.length_map, List.length_take]; omega)
        generalize (a.has.take k).map (putI a.kind) = pre at *
        generalize putI a.kind x = z at *
        have H4 := hide (HP.out.step (below_alloc wr (.cells (cellsV x).toArray 74)))
        have O4 := hide (World.ownsRow.alloc HO.out (.cells (cellsV x).toArray 74))
        have y0 := (ia_cells H4.out.2.1).1
        have zz := HP.out.2.1.lt
        clear hat hx HP HO PI
        go_wp2_with fail
        refine (PX.out _).mono ?_
        rintro e w5 ⟨rfl, hb5⟩
        have H5 := hide (H4.out.step hb5)
        have O5 := hide (own_keep O4.out hb5)
        have H6 := hide (H5.out.step (below_alloc w5 (.cells #[.int .u16 (z.1.toNat : Int), .string z.2] 40)))
        have O6 := hide (World.ownsRow.alloc O5.out (.cells #[.int .u16 (z.1.toNat : Int), .string z.2] 40))
        clear hb5 H4 O4 H5 O5 y0 x1 x2 x3 x4 x5 x6
        go_wp2_with (at_builtin; refine wpList_append_oneO rfl (.tmp 42) (.tmp 47) rfl (w.heap.size + 2) _ pre rfl O6.out w5.heap.size 1 z rfl own_two (by rw [TL.out]; omega) (Nat.succ_le_of_lt H6.out.2.2.lt) ?_; intro g cap w7 q1 q2 q3 q4)
        have H7 := hide (H6.out.fr (Fr.grown q3) (fun j e => own_ge O6.out j e))
        have O7 := hide q1
        clear q1 q2 q3 q4 H6 O6
        go_wp2
        go_roundw
        case rel => exact ⟨k + 1, hlt, by go_num, by rw [TK.out]; exact O7, H7⟩
        case measure => simp [intOf]; omega
      · have : k = a.has.length := by omega
        subst this
        rw [List.take_length] at HO
        have HA := hide (show a.has.map (putI a.kind) ++ statO a.code = heldA a from rfl)
        have AP := hide (fun W hv hz => appendStatus_any (v := u7) (l := a.has.map (putI a.kind)) (base := w.heap.size + 2) a.code s3 (by rw [List.length_map]; omega) W hv hz)
        rw [HA.out] at AP
        have HOL := hide (fun W v hv => holding_any (codeK a.kind) (headA a) (by omega) (l := heldA a) (by omega) okH W v hv)
        generalize a.has.map (putI a.kind) = pre at *
        generalize headA a = hd at *
        generalize heldA a = he at *
        have y5 := (ia_cells HP.out.2.1).2.2.2.2.2
        have OV1 := own_ge HO.out
        clear PI HA hlt lh sz ls s1 s2 s3 okH lenH
        go_wp2_with fail
        refine (AP.out _ HO.out (Nat.succ_le_of_lt HP.out.2.2.lt)).mono ?_
        rintro e w5 ⟨v5, rfl, q1, q2⟩
        have H5 := hide (HP.out.fr q2 (fun j e => OV1 j e))
        have L5 := hide (ownO_lst q1)
        clear q1 q2 HP HO y5 AP OV1
        go_wp2_with fail
        refine (HOL.out _ _ L5.out).mono ?_
        rintro e w6 ⟨rfl, hb6⟩
        have H6 := hide (H5.out.step hb6)
        clear hb6 H5 L5 HOL
        go_wp2_with (refine wpList_store_bx rfl (.tmp 2) (.tmp 56) rfl (w.heap.size + 1) _ _ H6.out.2.2 rfl rfl infoZ rfl rfl ?_; intro w7 G7 F7)
        have g0 := G7.cell 0
        have g1 := G7.cell 1
        have D7 := hide (show Below w.heap.size w w7 from H6.out.1.trans (F7.below H6.out.1.size (fun k e => by omega)))
        have EE := hide E.out.1
        have EO := hide E.out.2
        simp at g0 g1
        clear E H6 F7 G7
        refine bodyPost_ret (v := .tuple #[.agg #[.int .u16 ((codeK a.kind).toNat : Int), .string (bs (hd ++ emitL he))], .int .i64 0]) (by simp [results, Try.results19, go_sem, g0, g1]) rfl ⟨?_, D7.out⟩
        rw [EE.out, EO.out]
theorem putIA_any (a : IA) (hf : FitA a) {v : Value} (hl : a.has.length * 40 ≤ 140737488355328) (w : World) (hv : LstI v a.has w) :
    Calls Try.prog 19 #[AV a v] w (Gives (.tuple #[OV (puO a), .int .i64 (puE a)]) w) := by
  cases hs : soundA a with
  | true => exact putIA_yes a hf hs hl w hv
  | false => exact putIA_no a hf hs hl w hv
end Go.Proofs.Ytcpldojgmboipaa
