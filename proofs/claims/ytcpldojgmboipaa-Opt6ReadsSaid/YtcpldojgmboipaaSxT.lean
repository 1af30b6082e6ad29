/-
  What an identity association has, as an option: appendStatus, holding, putInner. Conditions: what is written is one; rows have few options.
-/
import Derived.Test.YtcpldojgmboipaaSxS
import Derived.Test.YtcpldojgmboipaaRgT
namespace Go.Proofs.Ytcpldojgmboipaa
open Go.RowKit Go.Joins

/-- what a call that appends to a row of its caller's gives -/
def Adds (base : Nat) (v : Value) (l : List Opt) (w : World) (e : Ending) (w' : World) : Prop := ∃ v', e = .returned v' ∧ OwnO w' base v' l ∧ Fr (fun k => some k = v.ownBlock) w w'
theorem statO_len (c : Int) : (statO c).length ≤ 1 := by unfold statO; split <;> simp
set_option maxRecDepth 100000 in
theorem appendStatus_any {v : Value} {l : List Opt} {base : Nat} (c : Int) (hc : -1 ≤ c ∧ c ≤ 65535) (hn : (l.length + 1) * 24 ≤ 140737488355328) (w : World) (hv : OwnO w base v l) (hb : base ≤ w.heap.size) :
    Calls Try.prog 41 #[v, .int .i64 c] w (Adds base v (l ++ statO c) w) := by
  by_cases h : c = -1
  · subst h
    rw [statO_none, List.append_nil]
    go_enter Try.func41, Try.ntmps41
    go_wp2
    go_ret
    exact ⟨_, rfl, hv, Fr.refl _ _⟩
  · have e : (c == -1) = false := by simpa using h
    have P := hide (fun W => putStatus_any c W)
    have ST := hide (show statO c = [((13 : UInt16), bs (beL 2 c.toNat))] from statO_some h)
    rw [show statV c = beL 2 c.toNat by unfold statV; rw [if_pos (by omega)]] at P
    rw [ST.out]
    generalize beL 2 c.toNat = s at *
    clear h hc
    obtain ⟨pv, cv, rfl⟩ : ∃ p c, v = .slice p l.length c := by obtain ⟨p, c, e, _⟩ := lenO hv; exact ⟨p, c, e⟩
    go_enter Try.func41, Try.ntmps41
    go_wp2_with fail
    refine (P.out _).mono ?_
    rintro e w2 ⟨rfl, hb2⟩
    have O2 := hide (own_keep hv hb2)
    have z2 := hb2.size
    have O3 := hide (World.ownsRow.alloc O2.out (.cells #[.int .u16 13, .string (bs s)] 40))
    have z3 : base ≤ (w2.alloc (.cells #[.int .u16 13, .string (bs s)] 40)).heap.size := by simp; omega
    have G3 := hide (show Fr No w (w2.alloc (.cells #[.int .u16 13, .string (bs s)] 40)) from (Fr.ofBelow hb2).andNo (Fr.alloc w2 _))
    clear O2
    go_wp2_with (at_builtin; refine wpList_append_oneO rfl (.tmp 8) (.tmp 12) rfl base _ l rfl O3.out w2.heap.size 1 ((13 : UInt16), bs s) rfl own_two (by omega) z3 ?_; intro g cap w4 q1 q2 q3 q4)
    have Q1 := hide q1
    have Q3 := hide (show Fr (fun k => some k = (Value.slice pv l.length cv).ownBlock) w w4 from G3.out.no.trans (Fr.grown q3) (fun _ _ e => e))
    clear q1 q2 q3 q4 O3 G3
    go_wp2
    go_ret
    exact ⟨_, rfl, Q1.out, Q3.out⟩
theorem holding_any (c : UInt16) (h : List UInt8) (hh : h.length ≤ 1000) {l : List Opt} (hl : l.length ≤ 128) (ok : okO l) (w : World) (v : Value) (hv : LstO v l w) :
    Calls Try.prog 40 #[.int .u16 (c.toNat : Int), .string ⟨h.toArray⟩, v] w (Gives (.agg #[.int .u16 (c.toNat : Int), .string (bs (h ++ emitL l))]) w) := by
  have EM := hide (fun W (hb : Below w.heap.size w W) => emit_any (v := v) (l := l) (by omega) W (hv.step hb))
  have N1 : ¬ 9223372036854775807 < h.length + (emitL l).length := by have := emit_len ok; omega
  unfold EmitP at EM
  rw [(em_good hl ok).1, (em_good hl ok).2] at EM
  generalize emitL l = s at *
  have B0 := hide (below_alloc w (.cells #[.int .u16 0, .string ⟨#[]⟩] 40))
  have X0 := hide (bx_new w 40 #[.int .u16 0, .string ⟨#[]⟩])
  clear hv ok hl hh
  go_enter Try.func40, Try.ntmps40
  go_wp2_with fail
  refine (EM.out _ B0.out).mono ?_
  rintro e w2 ⟨rfl, hb2⟩
  have X2 := hide (X0.out.step hb2)
  have D2 := hide (B0.out.trans (hb2.mono B0.out.size))
  clear hb2 X0 B0 EM
  go_wp2_with (refine wpList_store_bx rfl (.tmp 6) (.tmp 18) rfl w.heap.size _ _ X2.out rfl rfl infoZ rfl rfl ?_; intro w7 G7 F7)
  refine bodyPost_ret (v := .agg #[.int .u16 (c.toNat : Int), .string (bs (h ++ s))]) ((results_cell_row rfl _ _ w.heap.size _ _ _ _ rfl G7 Try.underlying40 rfl infoZ).trans ?_) rfl ⟨rfl, D2.out.trans (F7.below D2.out.size (fun k e => by omega))⟩
  rw [show bs (h ++ s) = bs h ++ bs s from (cat2 h s).symm]
/-- the memory of putInner: its two boxes -/
def PIw (w : World) (x : In) (W : World) : Prop := Below w.heap.size w W ∧ Bx w.heap.size 74 (cellsV x).toArray W ∧ Bx (w.heap.size + 1) 40 #[.int .u16 0, .string ⟨#[]⟩] W
theorem PIw.step {w : World} {x : In} {W W2 : World} (h : PIw w x W) (hb : Below W.heap.size W W2) : PIw w x W2 := ⟨chain h.1 hb, h.2.1.step hb, h.2.2.step hb⟩
theorem pi_new (w : World) (x : In) : PIw w x ((w.alloc (.cells (cellsV x).toArray 74)).alloc (.cells #[.int .u16 0, .string ⟨#[]⟩] 40)) := by
  have B := below_alloc w (.cells (cellsV x).toArray 74)
  have B2 := below_alloc (w.alloc (.cells (cellsV x).toArray 74)) (.cells #[.int .u16 0, .string ⟨#[]⟩] 40)
  refine ⟨chain B B2, (bx_new w _ _).step B2, ?_⟩
  have := bx_new (w.alloc (.cells (cellsV x).toArray 74)) 40 #[.int .u16 0, .string ⟨#[]⟩]
  simpa using this
theorem inner_cells {b : Nat} {x : In} {W : World} (h : Bx b 74 (cellsV x).toArray W) : W.cell? ⟨b, 0, none⟩ = some (.int .u64 (hi x.addr : Nat)) ∧ W.cell? ⟨b, 1, none⟩ = some (.int .u64 (lo x.addr : Nat)) ∧ W.cell? ⟨b, 2, none⟩ = some (.int .i64 x.bits) ∧ W.cell? ⟨b, 3, none⟩ = some (.int .u32 (x.pref.toNat : Int)) ∧ W.cell? ⟨b, 4, none⟩ = some (.int .u32 (x.valid.toNat : Int)) ∧ W.cell? ⟨b, 5, none⟩ = some (.int .i64 x.code) :=
  ⟨h.cell 0, h.cell 1, h.cell 2, h.cell 3, h.cell 4, h.cell 5⟩
theorem conv_b {W : World} {g : Nat} {y : UInt8} (h : W.heap[g]? = some (.cells #[.int .u8 (y.toNat : Int)] 5 (0, 0))) : (convert 65 9 (.slice (some ⟨g, 0, none⟩) 1 1)).run Try.prog W = .ok (St [y]) W := by
  refine run_convert_bytes_back (P := Try.prog) _ 65 9 5 ⟨g, 0, none⟩ 1 [y] Try.underlying65 Try.underlying5 Try.underlying9 (fun j hj => ?_)
  simp at hj
  subst hj
  rw [show (⟨g, 0, none⟩ : Go.Addr).add 0 = ⟨g, 0, none⟩ from rfl, cell_at h 0]
  rfl
theorem own_nil_below {w w' : World} (h : Fr (fun k => some k = (Value.slice none 0 0).ownBlock) w w') : Below w.heap.size w w' := h.below (Nat.le_refl _) (fun k e => by cases e)
set_option maxRecDepth 100000 in
set_option maxHeartbeats 4000000 in
theorem putInner_any (k : Int) (x : In) (hx : Fits x.addr) (hs : soundI k x = true) (w : World) :
    Calls Try.prog 39 #[.int .i64 k, IV x] w (Gives (OV (putI k x)) w) := by
  obtain ⟨s1, s2, s3⟩ := soundI_iff.1 hs
  have bb := (sound_iff.1 s1).1
  have P1 := hide (fun W => put32_any x.pref.toNat x.pref.toNat_lt W)
  have P2 := hide (fun W => put32_any x.valid.toNat x.valid.toNat_lt W)
  have PA := hide (fun W => putAddr_any hx W)
  have CW := hide (fun W => codeWithin_any k W)
  have AP := hide (fun W (hz : w.heap.size ≤ W.heap.size) => appendStatus_any (v := .slice none 0 0) (l := []) (base := w.heap.size) x.code s3 (by simp) W (ownO_nil _ _) hz)
  rw [List.nil_append] at AP
  have okS := okO_stat x.code
  have lenS := statO_len x.code
  have H0 := hide (pi_new w x)
  have L2 := timesI_len x
  have PT0 := hide (show putI k x = (codeW k, bs ((if k = 4 then timesI x ++ (UInt8.ofNat x.bits.toNat :: beL 16 x.addr) else beL 16 x.addr ++ timesI x) ++ emitL (statO x.code))) from rfl)
  have l1 := beL_length 4 x.pref.toNat
  have l3 := beL_length 4 x.valid.toNat
  have l4 := beL_length 16 x.addr
  have N1 : ¬ 9223372036854775807 < (beL 4 x.pref.toNat).length + (beL 4 x.valid.toNat).length := by omega
  go_enter Try.func39, Try.ntmps39
  go_wp2_with fail
  generalize (w.alloc (.cells #[.int .u64 (hi x.addr : Nat), .int .u64 (lo x.addr : Nat), .int .i64 x.bits, .int .u32 (x.pref.toNat : Int), .int .u32 (x.valid.toNat : Int), .int .i64 x.code] 74)).alloc (.cells #[.int .u16 0, .string ⟨#[]⟩] 40) = W0 at *
  refine wp_region_quiet (C := PIw w x) (by kernel_rfl) (by kernel_rfl) (H0.out.step (Below.refl _ _).drew) (wpQuiet_step (fun K0 hK0 => ?_))
  go_simp
  first | (with_reducible refine hK0 _ (wpQuiet_step (fun K1 hK1 => ?_))) | (with_reducible refine ⟨_, fun _ _ => rfl, hK0 _ (wpQuiet_step (fun K1 hK1 => ?_))⟩) | (rw [if_neg (by intro e; cases e)]; with_reducible refine hK0 _ (wpQuiet_step (fun K1 hK1 => ?_)))
  clear hK0 K0
  go_simp
  refine ⟨.int .u32 (x.pref.toNat : Int), fun W hW => ?_, hK1 _ (wpQuiet_step (fun K0 hK0 => ?_))⟩
  · ((obtain ⟨x0, x1, x2, x3, x4, x5⟩ := inner_cells hW.2.1; simp [go_sem, x3]))
  clear hK1 K1
  go_simp
  refine ⟨St (beL 4 x.pref.toNat), fun W hW => ?_, hK0 _ (wpQuiet_step (fun K1 hK1 => ?_))⟩
  · exact (P1.out W).mono fun e w4 ⟨he, hb⟩ => ⟨he, PIw.step hW hb⟩
  clear hK0 K0
  go_simp
  first | (with_reducible refine hK1 _ (wpQuiet_step (fun K0 hK0 => ?_))) | (with_reducible refine ⟨_, fun _ _ => rfl, hK1 _ (wpQuiet_step (fun K0 hK0 => ?_))⟩) | (rw [if_neg (by intro e; cases e)]; with_reducible refine hK1 _ (wpQuiet_step (fun K0 hK0 => ?_)))
  clear hK1 K1
  go_simp
  refine ⟨.int .u32 (x.valid.toNat : Int), fun W hW => ?_, hK0 _ (wpQuiet_step (fun K1 hK1 => ?_))⟩
  · ((obtain ⟨x0, x1, x2, x3, x4, x5⟩ := inner_cells hW.2.1; simp [go_sem, x4]))
  clear hK0 K0
  go_simp
  refine ⟨St (beL 4 x.valid.toNat), fun W hW => ?_, hK1 _ (wpQuiet_step (fun K0 hK0 => ?_))⟩
  · exact (P2.out W).mono fun e w4 ⟨he, hb⟩ => ⟨he, PIw.step hW hb⟩
  clear hK1 K1
  go_simp
  first | (with_reducible refine hK0 _ (wpQuiet_step (fun K1 hK1 => ?_))) | (with_reducible refine ⟨_, fun _ _ => rfl, hK0 _ (wpQuiet_step (fun K1 hK1 => ?_))⟩) | (rw [if_neg (by intro e; cases e)]; with_reducible refine hK0 _ (wpQuiet_step (fun K1 hK1 => ?_)))
  clear hK0 K0
  go_simp
  first | (with_reducible refine hK1 _ (wpQuiet_nil ?_)) | (with_reducible refine ⟨_, fun _ _ => rfl, hK1 _ (wpQuiet_nil ?_)⟩) | (rw [if_neg (by intro e; cases e)]; with_reducible refine hK1 _ (wpQuiet_nil ?_))
  clear hK1 K1
  intro W1 H1
  rw [show (ByteArray.mk (beL 4 x.pref.toNat).toArray ++ ByteArray.mk (beL 4 x.valid.toNat).toArray) = ⟨(timesI x).toArray⟩ from cat2 _ _]
  have x0 := (inner_cells H1.2.1).1
  have x1 := (inner_cells H1.2.1).2.1
  generalize timesI x = l2 at *
  have HP := hide H1
  clear P1 P2 H0 N1 l1 l3 H1
  go_wp2_with fail
  refine (PA.out _).mono ?_
  rintro e w2 ⟨rfl, hb2⟩
  have H2 := HP.out.step hb2
  have N2 : ¬ 9223372036854775807 < (beL 16 x.addr).length + l2.length := by omega
  clear hb2 HP x0 x1
  by_cases hk : k = 4
  · obtain ⟨l3, e3⟩ : ∃ l3, l2 ++ [UInt8.ofNat x.bits.toNat] = l3 := ⟨_, rfl⟩
    obtain ⟨l5, e5⟩ : ∃ l5, l3 ++ beL 16 x.addr = l5 := ⟨_, rfl⟩
    have n3 : l3.length = l2.length + 1 := by rw [← e3]; simp
    have n5 : l5.length = l3.length + (beL 16 x.addr).length := by rw [← e5]; simp
    have PT := hide (show putI k x = (codeW k, bs (l5 ++ emitL (statO x.code))) by
      rw [PT0.out, if_pos hk, ← e5, ← e3]; simp)
    have HO := hide (fun W v (hv : LstO v (statO x.code) W) => holding_any (codeW k) l5 (by omega) (by omega) okS W v hv)
    have E3 := hide e3
    have E5 := hide e5
    clear e3 e5
    have YB := hide (show IntKind.u8.wrap x.bits = ((UInt8.ofNat x.bits.toNat).toNat : Int) by rw [IntKind.wrap_u8, UInt8.toNat_ofNat']; omega)
    have N3 : ¬ 9223372036854775807 < l2.length + 1 := by omega
    have N4 : ¬ 9223372036854775807 < l3.length + (beL 16 x.addr).length := by omega
    have ek : (k == 4) = true := by simpa using hk
    generalize UInt8.ofNat x.bits.toNat = y at *
    generalize beL 16 x.addr = la at *
    clear PT0 okS lenS s1 s2 s3 bb l4 hs hx hk n3 n5
    go_wp2_with fail
    refine wp_region_rel (PIw w x) [some 22, some 23, some 24, some 25, some 26, some 27, some 28, some 29, some 30, some 31, some 32, some 33, some 34, some 6] [fun yy _ => yy = .string ⟨l2.toArray⟩, fun yy _ => yy = .pointer (some ⟨w.heap.size, 0, none⟩), fun yy _ => yy = .pointer (some ⟨w.heap.size, 2, none⟩), fun yy _ => yy = .int .i64 x.bits, fun yy _ => yy = .int .u8 (y.toNat : Int), fun yy W => ∃ g, yy = .slice (some ⟨g, 0, none⟩) 1 1 ∧ W.heap[g]? = some (.cells #[.int .u8 (y.toNat : Int)] 5 (0, 0)), fun yy _ => yy = .string ⟨[y].toArray⟩, fun yy _ => yy = .string ⟨l3.toArray⟩, fun yy _ => yy = .pointer (some ⟨w.heap.size, 0, none⟩), fun yy _ => yy = .pointer (some ⟨w.heap.size, 0, none⟩), fun yy _ => yy = A x.addr, fun yy _ => yy = .string ⟨la.toArray⟩, fun yy _ => yy = .string ⟨l5.toArray⟩, fun yy _ => yy = .string ⟨l5.toArray⟩] 42 (by kernel_rfl) (by kernel_rfl) rfl rfl (H2.step (Below.refl _ _).drew) ?_ ?_
    · refine ⟨⟨fun _ _ _ h _ => h, fun a' W K hD hC hd hf hK => ?_⟩, ⟨fun _ _ _ h _ => h, fun a' W K hD hC hd hf hK => ?_⟩, ⟨fun _ _ _ h _ => h, fun a' W K hD hC hd hf hK => ?_⟩, ⟨fun _ _ _ h _ => h, fun a' W K hD hC hd hf hK => ?_⟩, ⟨fun _ _ _ h _ => h, fun a' W K hD hC hd hf hK => ?_⟩, ⟨fun _ W W2 ⟨g, e, h⟩ hb => ⟨g, e, (hb.block g (lt_of_block h)).trans h⟩, fun a' W K hD hC hd hf hK => ?_⟩, ⟨fun _ _ _ h _ => h, fun a' W K hD hC hd hf hK => ?_⟩, ⟨fun _ _ _ h _ => h, fun a' W K hD hC hd hf hK => ?_⟩, ⟨fun _ _ _ h _ => h, fun a' W K hD hC hd hf hK => ?_⟩, ⟨fun _ _ _ h _ => h, fun a' W K hD hC hd hf hK => ?_⟩, ⟨fun _ _ _ h _ => h, fun a' W K hD hC hd hf hK => ?_⟩, ⟨fun _ _ _ h _ => h, fun a' W K hD hC hd hf hK => ?_⟩, ⟨fun _ _ _ h _ => h, fun a' W K hD hC hd hf hK => ?_⟩, ⟨fun _ _ _ h _ => h, fun a' W K hD hC hd hf hK => ?_⟩, trivial⟩
      · refine op_plain rfl ?_
        have f5 : a'.tmps[5]?.getD undef = .string ⟨l2.toArray⟩ := (hf.out 5 (by kernel_rfl)).trans (by simp)
        go_simp
        exact hK.out _ _ hC (Below.refl _ _) rfl
      · refine op_plain rfl ?_
        have f3 : a'.tmps[3]?.getD undef = .pointer (some ⟨w.heap.size, 0, none⟩) := (hf.out 3 (by kernel_rfl)).trans (by simp)
        go_simp
        exact hK.out _ _ hC (Below.refl _ _) rfl
      · refine op_plain rfl ?_
        have d23 : a'.tmps[23]?.getD undef = .pointer (some ⟨w.heap.size, 0, none⟩) := hd.out 1 23 (by kernel_rfl) rfl
        go_simp
        exact hK.out _ _ hC (Below.refl _ _) rfl
      · refine op_plain rfl ?_
        have d24 : a'.tmps[24]?.getD undef = .pointer (some ⟨w.heap.size, 2, none⟩) := hd.out 2 24 (by kernel_rfl) rfl
        obtain ⟨_, hX, _⟩ := id hC
        obtain ⟨x0, x1, x2, x3, x4, x5⟩ := inner_cells hX
        go_simp
        exact hK.out _ _ hC (Below.refl _ _) rfl
      · refine op_plain rfl ?_
        have d25 : a'.tmps[25]?.getD undef = .int .i64 x.bits := hd.out 3 25 (by kernel_rfl) rfl
        go_simp
        exact hK.out _ _ hC (Below.refl _ _) (congrArg (Value.int .u8) YB.out)
      · refine op_plain rfl ?_
        have d26 : a'.tmps[26]?.getD undef = .int .u8 (y.toNat : Int) := hd.out 4 26 (by kernel_rfl) rfl
        go_simp
        exact hK.out _ _ (hC.step (below_alloc _ _)) (below_alloc _ _) ⟨W.heap.size, rfl, heap_alloc_new _ _⟩
      · refine op_plain rfl ?_
        have d27 := hd.out 5 27 (by kernel_rfl) rfl
        obtain ⟨g, e27, h27⟩ := d27
        have CV := conv_b h27
        go_simp
        exact hK.out _ _ hC (Below.refl _ _) rfl
      · refine op_plain rfl ?_
        have d22 : a'.tmps[22]?.getD undef = .string ⟨l2.toArray⟩ := hd.out 0 22 (by kernel_rfl) rfl
        have d28 : a'.tmps[28]?.getD undef = .string ⟨[y].toArray⟩ := hd.out 6 28 (by kernel_rfl) rfl
        go_simp
        exact hK.out _ _ hC (Below.refl _ _) (congrArg Value.string ((cat2 l2 [y]).trans (congrArg bs E3.out)))
      · refine op_plain rfl ?_
        have f3 : a'.tmps[3]?.getD undef = .pointer (some ⟨w.heap.size, 0, none⟩) := (hf.out 3 (by kernel_rfl)).trans (by simp)
        go_simp
        exact hK.out _ _ hC (Below.refl _ _) rfl
      · refine op_plain rfl ?_
        have d30 : a'.tmps[30]?.getD undef = .pointer (some ⟨w.heap.size, 0, none⟩) := hd.out 8 30 (by kernel_rfl) rfl
        go_simp
        exact hK.out _ _ hC (Below.refl _ _) rfl
      · refine op_plain rfl ?_
        have d31 : a'.tmps[31]?.getD undef = .pointer (some ⟨w.heap.size, 0, none⟩) := hd.out 9 31 (by kernel_rfl) rfl
        obtain ⟨_, hX, _⟩ := id hC
        obtain ⟨x0, x1, x2, x3, x4, x5⟩ := inner_cells hX
        go_simp
        exact hK.out _ _ hC (Below.refl _ _) rfl
      · refine op_plain rfl ?_
        have d32 : a'.tmps[32]?.getD undef = A x.addr := hd.out 10 32 (by kernel_rfl) rfl
        go_simp
        go_at_call 69
        refine (PA.out _).mono ?_
        rintro e w2 ⟨rfl, hb2⟩
        exact hK.out _ _ (hC.step hb2) hb2 rfl
      · refine op_plain rfl ?_
        have d29 : a'.tmps[29]?.getD undef = .string ⟨l3.toArray⟩ := hd.out 7 29 (by kernel_rfl) rfl
        have d33 : a'.tmps[33]?.getD undef = .string ⟨la.toArray⟩ := hd.out 11 33 (by kernel_rfl) rfl
        go_simp
        exact hK.out _ _ hC (Below.refl _ _) (congrArg Value.string ((cat2 l3 la).trans (congrArg bs E5.out)))
      · refine op_plain rfl ?_
        have d34 : a'.tmps[34]?.getD undef = .string ⟨l5.toArray⟩ := hd.out 12 34 (by kernel_rfl) rfl
        go_simp
        exact hK.out _ _ hC (Below.refl _ _) rfl
    · intro vs W5 hC hR
      have q0 : vs 0 = .string ⟨l2.toArray⟩ := hR.out 0 (by decide)
      have q1 : vs 1 = .pointer (some ⟨w.heap.size, 0, none⟩) := hR.out 1 (by decide)
      have q2 : vs 2 = .pointer (some ⟨w.heap.size, 2, none⟩) := hR.out 2 (by decide)
      have q3 : vs 3 = .int .i64 x.bits := hR.out 3 (by decide)
      have q4 : vs 4 = .int .u8 (y.toNat : Int) := hR.out 4 (by decide)
      have r5 := hR.out 5 (by decide)
      generalize hq5 : vs 5 = q5 at *
      change (fun yy W => ∃ g, yy = .slice (some ⟨g, 0, none⟩) 1 1 ∧ W.heap[g]? = some (.cells #[.int .u8 (y.toNat : Int)] 5 (0, 0))) q5 W5 at r5
      have q6 : vs 6 = .string ⟨[y].toArray⟩ := hR.out 6 (by decide)
      have q7 : vs 7 = .string ⟨l3.toArray⟩ := hR.out 7 (by decide)
      have q8 : vs 8 = .pointer (some ⟨w.heap.size, 0, none⟩) := hR.out 8 (by decide)
      have q9 : vs 9 = .pointer (some ⟨w.heap.size, 0, none⟩) := hR.out 9 (by decide)
      have q10 : vs 10 = A x.addr := hR.out 10 (by decide)
      have q11 : vs 11 = .string ⟨la.toArray⟩ := hR.out 11 (by decide)
      have q12 : vs 12 = .string ⟨l5.toArray⟩ := hR.out 12 (by decide)
      have q13 : vs 13 = .string ⟨l5.toArray⟩ := hR.out 13 (by decide)
      simp only [fillF, Act.put, List.setIfInBounds_toArray, List.set_cons_zero, List.set_cons_succ, Nat.reduceAdd, q0, q1, q2, q3, q4, hq5, q6, q7, q8, q9, q10, q11, q12, q13]
      clear hR q0 q1 q2 q3 q4 hq5 q6 q7 q8 q9 q10 q11 q12 q13
      have H4 := hide hC
      clear hC r5 H2
      go_wp2_with fail
      refine wp_region_relT 7 1 (PIw w x) [some 35, some 36, some 37, some 38, some 39, some 40, some 41] [fun yy _ => yy = .int .i64 k, fun yy _ => yy = .int .u16 ((codeW k).toNat : Int), fun yy _ => yy = .string ⟨l5.toArray⟩, fun yy _ => yy = .pointer (some ⟨w.heap.size, 5, none⟩), fun yy _ => yy = .int .i64 x.code, fun yy W => OwnO W w.heap.size yy (statO x.code), fun yy _ => yy = .agg #[.int .u16 ((codeW k).toNat : Int), .string (bs (l5 ++ emitL (statO x.code)))]] 42 (by kernel_rfl) rfl (by omega) (by kernel_rfl) (by kernel_rfl) rfl rfl (H4.out.step (Below.refl _ _).drew) ?_ ?_
      · refine ⟨⟨fun _ _ _ h _ => h, fun a' W K hD hC hd hf hK => ?_⟩, ⟨fun _ _ _ h _ => h, fun a' W K hD hC hd hf hK => ?_⟩, ⟨fun _ _ _ h _ => h, fun a' W K hD hC hd hf hK => ?_⟩, ⟨fun _ _ _ h _ => h, fun a' W K hD hC hd hf hK => ?_⟩, ⟨fun _ _ _ h _ => h, fun a' W K hD hC hd hf hK => ?_⟩, ⟨fun _ _ _ h hb => own_keep h hb, fun a' W K hD hC hd hf hK => ?_⟩, ⟨fun _ _ _ h _ => h, fun a' W K hD hC hd hf hK => ?_⟩, trivial⟩
        · refine op_plain rfl ?_
          have f0 : a'.tmps[0]?.getD undef = .int .i64 k := (hf.out 0 (by kernel_rfl)).trans (by simp)
          go_simp
          exact hK.out _ _ hC (Below.refl _ _) rfl
        · refine op_plain rfl ?_
          have d35 : a'.tmps[35]?.getD undef = .int .i64 k := hd.out 0 35 (by kernel_rfl) rfl
          go_simp
          go_at_call 70
          refine (CW.out W).mono ?_
          rintro e w2 ⟨rfl, rfl⟩
          exact hK.out _ _ hC (Below.refl _ _) rfl
        · refine op_plain rfl ?_
          have f6 : a'.tmps[6]?.getD undef = .string ⟨l5.toArray⟩ := (hf.out 6 (by kernel_rfl)).trans (by simp)
          go_simp
          exact hK.out _ _ hC (Below.refl _ _) rfl
        · refine op_plain rfl ?_
          have f3 : a'.tmps[3]?.getD undef = .pointer (some ⟨w.heap.size, 0, none⟩) := (hf.out 3 (by kernel_rfl)).trans (by simp)
          go_simp
          exact hK.out _ _ hC (Below.refl _ _) rfl
        · refine op_plain rfl ?_
          have d38 : a'.tmps[38]?.getD undef = .pointer (some ⟨w.heap.size, 5, none⟩) := hd.out 3 38 (by kernel_rfl) rfl
          obtain ⟨_, hX, _⟩ := id hC
          obtain ⟨x0, x1, x2, x3, x4, x5⟩ := inner_cells hX
          go_simp
          exact hK.out _ _ hC (Below.refl _ _) rfl
        · refine op_plain rfl ?_
          have d39 : a'.tmps[39]?.getD undef = .int .i64 x.code := hd.out 4 39 (by kernel_rfl) rfl
          go_simp
          go_at_call 41
          refine (AP.out W hC.1.size).mono ?_
          rintro e w2 ⟨v2, rfl, hO, hb⟩
          have hb2 := own_nil_below hb
          exact hK.out _ _ (hC.step hb2) hb2 hO
        · refine op_plain rfl ?_
          have d36 : a'.tmps[36]?.getD undef = .int .u16 ((codeW k).toNat : Int) := hd.out 1 36 (by kernel_rfl) rfl
          have d37 : a'.tmps[37]?.getD undef = .string ⟨l5.toArray⟩ := hd.out 2 37 (by kernel_rfl) rfl
          have d40 := hd.out 5 40 (by kernel_rfl) rfl
          go_simp
          go_at_call 40
          refine (HO.out W _ (ownO_lst d40)).mono ?_
          rintro e w2 ⟨rfl, hb2⟩
          exact hK.out _ _ (hC.step hb2) hb2 rfl
      · intro vs W6 hC hR
        have q0 : vs 0 = .int .i64 k := hR.out 0 (by decide)
        have q1 : vs 1 = .int .u16 ((codeW k).toNat : Int) := hR.out 1 (by decide)
        have q2 : vs 2 = .string ⟨l5.toArray⟩ := hR.out 2 (by decide)
        have q3 : vs 3 = .pointer (some ⟨w.heap.size, 5, none⟩) := hR.out 3 (by decide)
        have q4 : vs 4 = .int .i64 x.code := hR.out 4 (by decide)
        have r5 := hR.out 5 (by decide)
        generalize hq5 : vs 5 = q5 at *
        change (fun yy W => OwnO W w.heap.size yy (statO x.code)) q5 W6 at r5
        have q6 : vs 6 = .agg #[.int .u16 ((codeW k).toNat : Int), .string (bs (l5 ++ emitL (statO x.code)))] := hR.out 6 (by decide)
        simp only [List.drop_succ_cons, List.drop_zero, fillF, Act.put, List.setIfInBounds_toArray, List.set_cons_zero, List.set_cons_succ, Nat.reduceAdd, q0, q1, q2, q3, q4, hq5, q6]
        clear hR q0 q1 q2 q3 q4 hq5 q6
        have R6 := hide hC.2.2
        have D6 := hide hC.1
        clear hC r5
        go_wp2_with (refine wpList_store_bx rfl (.tmp 4) (.tmp 41) rfl (w.heap.size + 1) _ _ R6.out rfl rfl infoZ rfl rfl ?_; intro w7 G7 F7)
        exact bodyPost_ret (v := OV (putI k x)) ((results_cell_row rfl _ _ (w.heap.size + 1) _ _ _ _ rfl G7 Try.underlying40 rfl infoZ).trans (by rw [PT.out])) rfl ⟨rfl, D6.out.trans (F7.below D6.out.size (fun k e => by omega))⟩
  · have PT := hide (show putI k x = (codeW k, bs ((beL 16 x.addr ++ l2) ++ emitL (statO x.code))) by rw [PT0.out, if_neg hk])
    have ek : (k == 4) = false := by simpa using hk
    obtain ⟨l5, e5⟩ : ∃ l5, beL 16 x.addr ++ l2 = l5 := ⟨_, rfl⟩
    have n5 : l5.length = (beL 16 x.addr).length + l2.length := by rw [← e5]; simp
    rw [e5] at PT
    have HO := hide (fun W v (hv : LstO v (statO x.code) W) => holding_any (codeW k) l5 (by omega) (by omega) okS W v hv)
    have CT := hide (show (ByteArray.mk (beL 16 x.addr).toArray ++ ByteArray.mk l2.toArray) = ⟨l5.toArray⟩ from (cat2 _ _).trans (congrArg bs e5))
    generalize beL 16 x.addr = la at *
    clear PT0 okS lenS s1 s2 s3 bb l4 hs hx hk n5
    go_wp2_with fail
    rw [CT.out]
    have H4 := hide H2
    clear H2
    refine wp_region_relT 7 1 (PIw w x) [some 35, some 36, some 37, some 38, some 39, some 40, some 41] [fun yy _ => yy = .int .i64 k, fun yy _ => yy = .int .u16 ((codeW k).toNat : Int), fun yy _ => yy = .string ⟨l5.toArray⟩, fun yy _ => yy = .pointer (some ⟨w.heap.size, 5, none⟩), fun yy _ => yy = .int .i64 x.code, fun yy W => OwnO W w.heap.size yy (statO x.code), fun yy _ => yy = .agg #[.int .u16 ((codeW k).toNat : Int), .string (bs (l5 ++ emitL (statO x.code)))]] 42 (by kernel_rfl) rfl (by omega) (by kernel_rfl) (by kernel_rfl) rfl rfl (H4.out.step (Below.refl _ _).drew) ?_ ?_
    · refine ⟨⟨fun _ _ _ h _ => h, fun a' W K hD hC hd hf hK => ?_⟩, ⟨fun _ _ _ h _ => h, fun a' W K hD hC hd hf hK => ?_⟩, ⟨fun _ _ _ h _ => h, fun a' W K hD hC hd hf hK => ?_⟩, ⟨fun _ _ _ h _ => h, fun a' W K hD hC hd hf hK => ?_⟩, ⟨fun _ _ _ h _ => h, fun a' W K hD hC hd hf hK => ?_⟩, ⟨fun _ _ _ h hb => own_keep h hb, fun a' W K hD hC hd hf hK => ?_⟩, ⟨fun _ _ _ h _ => h, fun a' W K hD hC hd hf hK => ?_⟩, trivial⟩
      · refine op_plain rfl ?_
        have f0 : a'.tmps[0]?.getD undef = .int .i64 k := (hf.out 0 (by kernel_rfl)).trans (by simp)
        go_simp
        exact hK.out _ _ hC (Below.refl _ _) rfl
      · refine op_plain rfl ?_
        have d35 : a'.tmps[35]?.getD undef = .int .i64 k := hd.out 0 35 (by kernel_rfl) rfl
        go_simp
        go_at_call 70
        refine (CW.out W).mono ?_
        rintro e w2 ⟨rfl, rfl⟩
        exact hK.out _ _ hC (Below.refl _ _) rfl
      · refine op_plain rfl ?_
        have f6 : a'.tmps[6]?.getD undef = .string ⟨l5.toArray⟩ := (hf.out 6 (by kernel_rfl)).trans (by simp)
        go_simp
        exact hK.out _ _ hC (Below.refl _ _) rfl
      · refine op_plain rfl ?_
        have f3 : a'.tmps[3]?.getD undef = .pointer (some ⟨w.heap.size, 0, none⟩) := (hf.out 3 (by kernel_rfl)).trans (by simp)
        go_simp
        exact hK.out _ _ hC (Below.refl _ _) rfl
      · refine op_plain rfl ?_
        have d38 : a'.tmps[38]?.getD undef = .pointer (some ⟨w.heap.size, 5, none⟩) := hd.out 3 38 (by kernel_rfl) rfl
        obtain ⟨_, hX, _⟩ := id hC
        obtain ⟨x0, x1, x2, x3, x4, x5⟩ := inner_cells hX
        go_simp
        exact hK.out _ _ hC (Below.refl _ _) rfl
      · refine op_plain rfl ?_
        have d39 : a'.tmps[39]?.getD undef = .int .i64 x.code := hd.out 4 39 (by kernel_rfl) rfl
        go_simp
        go_at_call 41
        refine (AP.out W hC.1.size).mono ?_
        rintro e w2 ⟨v2, rfl, hO, hb⟩
        have hb2 := own_nil_below hb
        exact hK.out _ _ (hC.step hb2) hb2 hO
      · refine op_plain rfl ?_
        have d36 : a'.tmps[36]?.getD undef = .int .u16 ((codeW k).toNat : Int) := hd.out 1 36 (by kernel_rfl) rfl
        have d37 : a'.tmps[37]?.getD undef = .string ⟨l5.toArray⟩ := hd.out 2 37 (by kernel_rfl) rfl
        have d40 := hd.out 5 40 (by kernel_rfl) rfl
        go_simp
        go_at_call 40
        refine (HO.out W _ (ownO_lst d40)).mono ?_
        rintro e w2 ⟨rfl, hb2⟩
        exact hK.out _ _ (hC.step hb2) hb2 rfl
    · intro vs W6 hC hR
      have q0 : vs 0 = .int .i64 k := hR.out 0 (by decide)
      have q1 : vs 1 = .int .u16 ((codeW k).toNat : Int) := hR.out 1 (by decide)
      have q2 : vs 2 = .string ⟨l5.toArray⟩ := hR.out 2 (by decide)
      have q3 : vs 3 = .pointer (some ⟨w.heap.size, 5, none⟩) := hR.out 3 (by decide)
      have q4 : vs 4 = .int .i64 x.code := hR.out 4 (by decide)
      have r5 := hR.out 5 (by decide)
      generalize hq5 : vs 5 = q5 at *
      change (fun yy W => OwnO W w.heap.size yy (statO x.code)) q5 W6 at r5
      have q6 : vs 6 = .agg #[.int .u16 ((codeW k).toNat : Int), .string (bs (l5 ++ emitL (statO x.code)))] := hR.out 6 (by decide)
      simp only [List.drop_succ_cons, List.drop_zero, fillF, Act.put, List.setIfInBounds_toArray, List.set_cons_zero, List.set_cons_succ, Nat.reduceAdd, q0, q1, q2, q3, q4, hq5, q6]
      clear hR q0 q1 q2 q3 q4 hq5 q6
      have R6 := hide hC.2.2
      have D6 := hide hC.1
      clear hC r5
      go_wp2_with (refine wpList_store_bx rfl (.tmp 4) (.tmp 41) rfl (w.heap.size + 1) _ _ R6.out rfl rfl infoZ rfl rfl ?_; intro w7 G7 F7)
      exact bodyPost_ret (v := OV (putI k x)) ((results_cell_row rfl _ _ (w.heap.size + 1) _ _ _ _ rfl G7 Try.underlying40 rfl infoZ).trans (by rw [PT.out])) rfl ⟨rfl, D6.out.trans (F7.below D6.out.size (fun k e => by omega))⟩
end Go.Proofs.Ytcpldojgmboipaa
