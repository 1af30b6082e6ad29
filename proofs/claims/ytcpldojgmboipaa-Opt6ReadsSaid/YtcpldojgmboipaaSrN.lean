/-
  The document's own inner. Conditions: a string is no longer than an int; an int is one of 64 bits.
-/
import Derived.Test.YtcpldojgmboipaaSrC
import Derived.Test.YtcpldojgmboipaaSrO
import Derived.Test.YtcpldojgmboipaaSxC
namespace Go.Proofs.Ytcpldojgmboipaa
open Go.RowKit Go.Joins

/-- the memory of inner: the box of its result, the box that it fills -/
structure RNw (w : World) (cs : Array Value) (W : World) : Prop where
  below : Below w.heap.size w W
  res : Bx w.heap.size 74 zeroI W
  box : Bx (w.heap.size + 1) 74 cs W
theorem RNw.step {w : World} {cs : Array Value} {W W2 : World} (h : RNw w cs W) (hb : Below W.heap.size W W2) : RNw w cs W2 := ⟨chain h.below hb, h.res.step hb, h.box.step hb⟩
theorem RNw.set {w : World} {cs : Array Value} {W : World} (h : RNw w cs W) (i : Nat) (v : Value) : RNw w (cs.setIfInBounds i v) (W.setCell ⟨w.heap.size + 1, i, none⟩ v) :=
  ⟨h.below.setCell (by show w.heap.size ≤ w.heap.size + 1; omega) v, h.res.other (by show w.heap.size ≠ w.heap.size + 1; omega) v, h.box.set i v⟩
theorem rn_new (w : World) (cs : Array Value) : RNw w cs ((w.alloc (.cells zeroI 74)).alloc (.cells cs 74)) := by
  have B := below_alloc w (.cells zeroI 74)
  have B2 := below_alloc (w.alloc (.cells zeroI 74)) (.cells cs 74)
  refine ⟨chain B B2, (bx_new w _ _).step B2, ?_⟩
  have := bx_new (w.alloc (.cells zeroI 74)) 74 cs
  simpa using this
/-- what inner answers -/
def zeroIn : In := ⟨0, 0, 0, 0, 0⟩
def rinE (k : Int) (s : ByteArray) : Int := match readI k (lb s) with | .ok _ => 0 | .error y => y
def rinV (k : Int) (s : ByteArray) : In := match readI k (lb s) with | .ok x => x | .error _ => zeroIn
def RRI (k : Int) (s : ByteArray) (w : World) (e : Ending) (w' : World) : Prop := Gives (.tuple #[IV (rinV k s), .int .i64 (rinE k s)]) w e w'
theorem rin_ok {k : Int} {s : ByteArray} {x : In} (h : readI k (lb s) = .ok x) : rinE k s = 0 ∧ rinV k s = x := by unfold rinE rinV; rw [h]; exact ⟨rfl, rfl⟩
theorem rin_no {k : Int} {s : ByteArray} {y : Int} (h : readI k (lb s) = .error y) : rinE k s = y ∧ rinV k s = zeroIn := by unfold rinE rinV; rw [h]; exact ⟨rfl, rfl⟩
theorem iv_zero : IV zeroIn = .agg zeroI := rfl
theorem idx_head {h : ByteArray} {n : Nat} (hn : n < h.size) : h[n] = (lb h).getD n 0 := by
  rw [List.getD_eq_getElem?_getD]
  have : (lb h)[n]? = some h[n] := by
    rw [List.getElem?_eq_getElem (by rw [lb_len]; exact hn)]
    rfl
  rw [this]; rfl
theorem getA_head {s : ByteArray} {m n : Nat} (h : n + 16 ≤ m) (hm : m ≤ s.size) : getA (bs ((lb s).take m)) (n : Int) = beV (((lb s).drop n).take 16) := by
  have hz : (bs ((lb s).take m)).size = m := by rw [bs_len, List.length_take, lb_len]; omega
  obtain ⟨_, _, e⟩ := getV_off (s := bs ((lb s).take m)) (k := n) (n := 16) (by omega)
  unfold getA
  rw [show cutV (bs ((lb s).take m)) (n : Int) 16 = _ from e]
  show beV (lb (bs _)) = _
  rw [lb_bs, lb_bs, List.drop_take, List.take_take, Nat.min_eq_left (by omega)]
set_option maxRecDepth 100000 in
set_option maxHeartbeats 8000000 in
theorem rinner_four (k : Int) (hk : k = 4) {s : ByteArray} (hs : s.size ≤ maxLen) (w : World) : Calls Try.prog 57 #[.int .i64 k, .string s] w (RRI k s w) := by
  have hs2 : s.size ≤ 9223372036854775807 := by unfold maxLen at hs; exact hs
  have H0 := hide (rn_new w zeroI)
  have CU := hide (fun W => cut_ref s hs (show I64 0 from ⟨by omega, by omega⟩) (show I64 25 from ⟨by omega, by omega⟩) W)
  have ek : (k == 4) = true := by simpa using hk
  have sz : sizeI k = 25 := by unfold sizeI; rw [if_pos hk]
  by_cases h1 : s.size < 25
  · have E := hide (rin_no (k := k) (s := s) (readI_short (by omega)))
    rw [show cutO s 0 25 = false by unfold cutO; rw [decide_eq_false_iff_not]; omega] at CU
    generalize cutV s 0 25 = cv at *
    clear hk sz hs h1
    go_enter Try.func57, Try.ntmps57
    go_wp2_with fail
    refine (CU.out _).mono ?_
    rintro e w1 ⟨rfl, rfl⟩
    go_wp2_with (first | (refine wpList_load_bx rfl (.tmp 6) rfl (w.heap.size + 1) _ H0.out.box rfl _ Try.underlying74 rfl infoI ?_) | (refine wpList_store_bx rfl (.tmp 4) (.tmp 28) rfl w.heap.size _ _ H0.out.res rfl rfl infoI rfl rfl ?_; intro w9 G9 F9))
    have D9 := hide (H0.out.below.trans (F9.below H0.out.below.size (fun k e => by omega)))
    have EE := hide E.out.1
    have EO := hide E.out.2
    have g0 := G9.cell 0
    have g1 := G9.cell 1
    have g2 := G9.cell 2
    have g3 := G9.cell 3
    have g4 := G9.cell 4
    have g5 := G9.cell 5
    simp at g0 g1 g2 g3 g4 g5
    clear E H0 F9 G9
    refine bodyPost_ret (v := .tuple #[.agg zeroI, .int .i64 3]) (by simp [results, Try.results57, go_sem, g0, g1, g2, g3, g4, g5]) rfl ⟨?_, D9.out⟩
    rw [EE.out, EO.out]; rfl
  · obtain ⟨X, hX⟩ : ∃ X, mkI k (lb s) (-1) = X := ⟨_, rfl⟩
    obtain ⟨RG1, RG2⟩ := readI_go hX (by omega)
    rw [sz] at RG2
    have GB := hide (fun h => rin_no (RG1 h))
    have GN := hide (fun h y hy => rin_no ((RG2 h).1 y hy))
    have GS := hide (fun h l hl y hy => rin_no (((RG2 h).2 l hl).1 y hy))
    have GO := hide (fun h l hl c hc => rin_ok (((RG2 h).2 l hl).2 c hc))
    have hXf : Fits X.addr := by rw [← hX]; exact mkI_fits k (lb s) (-1)
    have hz : (bs ((lb s).take 25)).size = 25 := by rw [bs_len, List.length_take, lb_len]; omega
    obtain ⟨c1, _, c3⟩ := getV_off (s := s) (k := 0) (n := 25) (by omega)
    rw [show cutO s 0 25 = true from c1, show cutV s 0 25 = bs ((lb s).take 25) from c3] at CU
    have hdl : (bs ((lb s).take 25)).size ≤ maxLen := by rw [hz]; unfold maxLen; omega
    have eX : X = ⟨beV (((lb s).drop 9).take 16), (((lb s).getD 8 0).toNat : Int), W4 s 0, W4 s 4, -1⟩ := by rw [← hX]; unfold mkI; rw [if_pos hk]; rfl
    have WP := hide (fun W => (show Calls Try.prog 56 #[.string (bs ((lb s).take 25)), .int .i64 0] W (Same (.int .u32 (X.pref.toNat : Int)) W) by
      have := rword_any hdl (n := 0) (by rw [hz]; omega) W
      rw [W4_head (by omega)] at this
      rw [eX]; exact this))
    have WV := hide (fun W => (show Calls Try.prog 56 #[.string (bs ((lb s).take 25)), .int .i64 4] W (Same (.int .u32 (X.valid.toNat : Int)) W) by
      have := rword_any hdl (n := 4) (by rw [hz]; omega) W
      rw [W4_head (by omega)] at this
      rw [eX]; exact this))
    have GA := hide (fun W => (show Calls Try.prog 80 #[.string (bs ((lb s).take 25)), .int .i64 9] W (Gives (.tuple #[A X.addr, .bool (cutO (bs ((lb s).take 25)) 9 16)]) W) by
      have := getAddr_ref (bs ((lb s).take 25)) hdl (show I64 9 from ⟨by omega, by omega⟩) W
      rw [show getA (bs ((lb s).take 25)) 9 = X.addr by rw [eX]; exact getA_head (n := 9) (by omega) (by omega)] at this
      exact this))
    have SD := hide (fun W => rsound_any hXf X.bits W)
    have PA := hide (fun W => rparse_any (s := De s 25) (by rw [De_size]; omega) W)
    have PL := hide (fun l (h : parseK 0 (lb (De s 25)) = .ok l) => (show parE (De s 25) = 0 ∧ parL (De s 25) = l by unfold parE parL; rw [h]; exact ⟨rfl, rfl⟩))
    have PN := hide (fun y (h : parseK 0 (lb (De s 25)) = .error y) => (show parE (De s 25) = y by unfold parE; rw [h]))
    have DS := hide (drop_str s (n := 25) (by omega))
    have LD : lb (De s 25) = (lb s).drop 25 := lb_bs _
    rw [LD] at PL PN
    unfold ParseP at PA
    have SZi : (25 : Int) ≤ (s.size : Int) := by omega
    have EB : ((((bs ((lb s).take 25))[8]'(by rw [hz]; omega)).toNat : Int)) = X.bits := by
      rw [idx_head (by rw [hz]; omega), lb_bs, eX]
      show (((((lb s).take 25).getD 8 0).toNat : Int)) = ((((lb s).getD 8 0).toNat : Int))
      rw [List.getD_eq_getElem?_getD, List.getD_eq_getElem?_getD, List.getElem?_take, if_pos (by omega)]
    have WB : wrap64 X.bits = X.bits := by
      rw [eX]
      have := ((lb s).getD 8 0).toNat_lt
      show wrap64 (((lb s).getD 8 0).toNat : Int) = _
      exact IntWalk.wrap64_in _ ⟨by omega, by omega⟩
    generalize bs ((lb s).take 25) = hd at *
    generalize cutO hd 9 16 = oo at *
    clear hs RG1 RG2 hX h1 c1 c3 hdl eX LD hXf sz
    go_enter Try.func57, Try.ntmps57
    go_wp2_with fail
    refine (CU.out _).mono ?_
    rintro e w1 ⟨rfl, rfl⟩
    go_wp2_with fail
    refine (WP.out _).mono ?_
    rintro e w1 ⟨rfl, rfl⟩
    go_wp2_with fail
    refine (WV.out _).mono ?_
    rintro e w1 ⟨rfl, rfl⟩
    go_wp2_with fail
    refine (GA.out _).mono ?_
    rintro e w2 ⟨rfl, hb2⟩
    have H2 := hide ((rn_new w #[.int .u64 0, .int .u64 0, .int .i64 X.bits, .int .u32 (X.pref.toNat : Int), .int .u32 (X.valid.toNat : Int), .int .i64 0]).step hb2)
    have H3 := hide (H2.out.step (below_alloc w2 (.cells #[.int .u64 (hi X.addr : Nat), .int .u64 (lo X.addr : Nat)] 70)))
    have X3 := bx_new w2 70 #[.int .u64 (hi X.addr : Nat), .int .u64 (lo X.addr : Nat)]
    clear hb2 H2 H0 GA WP WV CU
    go_upto_region 18 with fail
    generalize w2.alloc (.cells #[.int .u64 (hi X.addr : Nat), .int .u64 (lo X.addr : Nat)] 70) = w3 at *
    generalize w2.heap.size = b12 at *
    have t0 := X3.cell 0
    have t1 := X3.cell 1
    have c0 := H3.out.box.cell 0
    have c1 := H3.out.box.cell 1
    have f0 := H3.out.box.free 0
    have f1 := H3.out.box.free 1
    simp at t0 t1 c0 c1
    have H4 := hide (show RNw w (cellsW X 0) ((w3.setCell ⟨w.heap.size + 1, 0, none⟩ (.int .u64 (hi X.addr : Nat))).setCell ⟨w.heap.size + 1, 1, none⟩ (.int .u64 (lo X.addr : Nat))) from (H3.out.set 0 _).set 1 _)
    clear H3 X3
    go_upto_region 19 with fail
    generalize (w3.setCell ⟨w.heap.size + 1, 0, none⟩ (.int .u64 (hi X.addr : Nat))).setCell ⟨w.heap.size + 1, 1, none⟩ (.int .u64 (lo X.addr : Nat)) = w4 at *
    clear t0 t1 c0 c1 f0 f1
    have c0 := H4.out.box.cell 0
    have c1 := H4.out.box.cell 1
    have c2 := H4.out.box.cell 2
    simp at c0 c1 c2
    go_wp2_with fail
    refine (SD.out _).mono ?_
    rintro e w5 ⟨rfl, hb5⟩
    have H5 := hide (H4.out.step hb5)
    clear hb5 H4 SD c0 c1 c2 EB WB
    cases SB : soundS X.addr X.bits with
    | false =>
      have E := hide (GB.out SB)
      clear GB GN GS GO PL PN PA DS
      go_wp2_with (refine wpList_store_bx rfl (.tmp 4) (.tmp 62) rfl w.heap.size _ _ H5.out.res rfl rfl infoI rfl rfl ?_; intro w9 G9 F9)
      have D9 := hide (H5.out.below.trans (F9.below H5.out.below.size (fun k e => by omega)))
      have EE := hide E.out.1
      have EO := hide E.out.2
      have g0 := G9.cell 0
      have g1 := G9.cell 1
      have g2 := G9.cell 2
      have g3 := G9.cell 3
      have g4 := G9.cell 4
      have g5 := G9.cell 5
      simp at g0 g1 g2 g3 g4 g5
      clear E H5 F9 G9
      refine bodyPost_ret (v := .tuple #[.agg zeroI, .int .i64 130]) (by simp [results, Try.results57, go_sem, g0, g1, g2, g3, g4, g5]) rfl ⟨?_, D9.out⟩
      rw [EE.out, EO.out]; rfl
    | true =>
      go_wp2_with fail
      rw [DS.out]
      refine (PA.out _).mono ?_
      rintro e w6 ⟨vl, rfl, OL, hb6⟩
      have H6 := hide (H5.out.step hb6)
      have LL := hide (ownO_lst OL)
      clear OL hb6 H5 PA DS
      cases hp : parseK 0 ((lb s).drop 25) with
      | error y =>
        have E := hide (GN.out SB y hp)
        have ey : (y != 0) = true := by have := parse_err0 hp; simpa using (show ¬ y = 0 by omega)
        rw [PN.out y hp]
        clear GN GS GO PL PN hp
        go_wp2_with (refine wpList_store_bx rfl (.tmp 4) (.tmp 72) rfl w.heap.size _ _ H6.out.res rfl rfl infoI rfl rfl ?_; intro w9 G9 F9)
        have D9 := hide (H6.out.below.trans (F9.below H6.out.below.size (fun k e => by omega)))
        have EE := hide E.out.1
        have EO := hide E.out.2
        have g0 := G9.cell 0
        have g1 := G9.cell 1
        have g2 := G9.cell 2
        have g3 := G9.cell 3
        have g4 := G9.cell 4
        have g5 := G9.cell 5
        simp at g0 g1 g2 g3 g4 g5
        clear E H6 F9 G9
        refine bodyPost_ret (v := .tuple #[.agg zeroI, .int .i64 y]) (by simp [results, Try.results57, go_sem, g0, g1, g2, g3, g4, g5]) rfl ⟨?_, D9.out⟩
        rw [EE.out, EO.out]; rfl
      | ok l =>
        obtain ⟨p1, p2, p3⟩ := parse_ok hp
        have ST := hide (fun W (h : LstO vl l W) => rstatuses_any p2 (by omega) W h)
        have GS := hide (GS.out SB l hp)
        have GO := hide (GO.out SB l hp)
        rw [(PL.out l hp).2] at LL
        rw [(PL.out l hp).1]
        clear GN PL PN hp p1 p2 p3
        obtain ⟨pl, cl, rfl⟩ := lstO_len LL.out
        cases hst : statF (-1) l with
        | error y =>
          have E := hide (GS.out y hst)
          have ey : (y != 0) = true := by have := statF_err l (-1) y hst; simpa using (show ¬ y = 0 by omega)
          have Z := st_no hst
          rw [Z.1, Z.2] at ST
          clear GS GO hst Z
          go_wp2_with fail
          refine (ST.out _ LL.out).mono ?_
          rintro e w7 ⟨rfl, rfl⟩
          go_wp2_with (refine wpList_store_bx rfl (.tmp 4) (.tmp 81) rfl w.heap.size _ _ H6.out.res rfl rfl infoI rfl rfl ?_; intro w9 G9 F9)
          have D9 := hide (H6.out.below.trans (F9.below H6.out.below.size (fun k e => by omega)))
          have EE := hide E.out.1
          have EO := hide E.out.2
          have g0 := G9.cell 0
          have g1 := G9.cell 1
          have g2 := G9.cell 2
          have g3 := G9.cell 3
          have g4 := G9.cell 4
          have g5 := G9.cell 5
          simp at g0 g1 g2 g3 g4 g5
          clear E H6 F9 G9
          refine bodyPost_ret (v := .tuple #[.agg zeroI, .int .i64 y]) (by simp [results, Try.results57, go_sem, g0, g1, g2, g3, g4, g5]) rfl ⟨?_, D9.out⟩
          rw [EE.out, EO.out]; rfl
        | ok cc =>
          have E := hide (GO.out cc hst)
          have Z := st_ok hst
          rw [Z.1, Z.2] at ST
          clear GS GO hst Z
          go_wp2_with fail
          refine (ST.out _ LL.out).mono ?_
          rintro e w7 ⟨rfl, rfl⟩
          clear LL ST
          have c5 := H6.out.box.cell 5
          have f5 := H6.out.box.free 5
          simp at c5
          have H7 := hide (show RNw w (cellsW X cc) (w6.setCell ⟨w.heap.size + 1, 5, none⟩ (.int .i64 cc)) from H6.out.set 5 _)
          clear H6
          go_wp2_with (first | (refine wpList_load_bx rfl (.tmp 6) rfl (w.heap.size + 1) _ H7.out.box rfl _ Try.underlying74 rfl infoI ?_) | (refine wpList_store_bx rfl (.tmp 4) (.tmp 85) rfl w.heap.size _ _ H7.out.res rfl rfl infoI rfl rfl ?_; intro w9 G9 F9))
          have D9 := hide (H7.out.below.trans (F9.below H7.out.below.size (fun k e => by omega)))
          have EE := hide E.out.1
          have EO := hide E.out.2
          have g0 := G9.cell 0
          have g1 := G9.cell 1
          have g2 := G9.cell 2
          have g3 := G9.cell 3
          have g4 := G9.cell 4
          have g5 := G9.cell 5
          simp at g0 g1 g2 g3 g4 g5
          clear E H7 F9 G9
          refine bodyPost_ret (v := .tuple #[.agg (cellsW X cc), .int .i64 0]) (by simp [results, Try.results57, go_sem, g0, g1, g2, g3, g4, g5]) rfl ⟨?_, D9.out⟩
          rw [EE.out, EO.out]
set_option maxRecDepth 100000 in
set_option maxHeartbeats 8000000 in
theorem rinner_rest (k : Int) (hk : ¬ k = 4) {s : ByteArray} (hs : s.size ≤ maxLen) (w : World) : Calls Try.prog 57 #[.int .i64 k, .string s] w (RRI k s w) := by
  have hs2 : s.size ≤ 9223372036854775807 := by unfold maxLen at hs; exact hs
  have H0 := hide (rn_new w zeroI)
  have CU := hide (fun W => cut_ref s hs (show I64 0 from ⟨by omega, by omega⟩) (show I64 24 from ⟨by omega, by omega⟩) W)
  have ek : (k == 4) = false := by simpa using hk
  have sz : sizeI k = 24 := by unfold sizeI; rw [if_neg hk]
  by_cases h1 : s.size < 24
  · have E := hide (rin_no (k := k) (s := s) (readI_short (by omega)))
    rw [show cutO s 0 24 = false by unfold cutO; rw [decide_eq_false_iff_not]; omega] at CU
    generalize cutV s 0 24 = cv at *
    clear hk sz hs h1
    go_enter Try.func57, Try.ntmps57
    go_wp2_with fail
    refine (CU.out _).mono ?_
    rintro e w1 ⟨rfl, rfl⟩
    go_wp2_with (first | (refine wpList_load_bx rfl (.tmp 6) rfl (w.heap.size + 1) _ H0.out.box rfl _ Try.underlying74 rfl infoI ?_) | (refine wpList_store_bx rfl (.tmp 4) (.tmp 28) rfl w.heap.size _ _ H0.out.res rfl rfl infoI rfl rfl ?_; intro w9 G9 F9))
    have D9 := hide (H0.out.below.trans (F9.below H0.out.below.size (fun k e => by omega)))
    have EE := hide E.out.1
    have EO := hide E.out.2
    have g0 := G9.cell 0
    have g1 := G9.cell 1
    have g2 := G9.cell 2
    have g3 := G9.cell 3
    have g4 := G9.cell 4
    have g5 := G9.cell 5
    simp at g0 g1 g2 g3 g4 g5
    clear E H0 F9 G9
    refine bodyPost_ret (v := .tuple #[.agg zeroI, .int .i64 3]) (by simp [results, Try.results57, go_sem, g0, g1, g2, g3, g4, g5]) rfl ⟨?_, D9.out⟩
    rw [EE.out, EO.out]; rfl
  · obtain ⟨X, hX⟩ : ∃ X, mkI k (lb s) (-1) = X := ⟨_, rfl⟩
    obtain ⟨RG1, RG2⟩ := readI_go hX (by omega)
    rw [sz] at RG2
    have GB := hide (fun h => rin_no (RG1 h))
    have GN := hide (fun h y hy => rin_no ((RG2 h).1 y hy))
    have GS := hide (fun h l hl y hy => rin_no (((RG2 h).2 l hl).1 y hy))
    have GO := hide (fun h l hl c hc => rin_ok (((RG2 h).2 l hl).2 c hc))
    have hXf : Fits X.addr := by rw [← hX]; exact mkI_fits k (lb s) (-1)
    have hz : (bs ((lb s).take 24)).size = 24 := by rw [bs_len, List.length_take, lb_len]; omega
    obtain ⟨c1, _, c3⟩ := getV_off (s := s) (k := 0) (n := 24) (by omega)
    rw [show cutO s 0 24 = true from c1, show cutV s 0 24 = bs ((lb s).take 24) from c3] at CU
    have hdl : (bs ((lb s).take 24)).size ≤ maxLen := by rw [hz]; unfold maxLen; omega
    have eX : X = ⟨beV (((lb s).drop 0).take 16), 128, W4 s 16, W4 s 20, -1⟩ := by rw [← hX]; unfold mkI; rw [if_neg hk]; rfl
    have WP := hide (fun W => (show Calls Try.prog 56 #[.string (bs ((lb s).take 24)), .int .i64 16] W (Same (.int .u32 (X.pref.toNat : Int)) W) by
      have := rword_any hdl (n := 16) (by rw [hz]; omega) W
      rw [W4_head (by omega)] at this
      rw [eX]; exact this))
    have WV := hide (fun W => (show Calls Try.prog 56 #[.string (bs ((lb s).take 24)), .int .i64 20] W (Same (.int .u32 (X.valid.toNat : Int)) W) by
      have := rword_any hdl (n := 20) (by rw [hz]; omega) W
      rw [W4_head (by omega)] at this
      rw [eX]; exact this))
    have GA := hide (fun W => (show Calls Try.prog 80 #[.string (bs ((lb s).take 24)), .int .i64 0] W (Gives (.tuple #[A X.addr, .bool (cutO (bs ((lb s).take 24)) 0 16)]) W) by
      have := getAddr_ref (bs ((lb s).take 24)) hdl (show I64 0 from ⟨by omega, by omega⟩) W
      rw [show getA (bs ((lb s).take 24)) 0 = X.addr by rw [eX]; exact getA_head (n := 0) (by omega) (by omega)] at this
      exact this))
    have SD := hide (fun W => rsound_any hXf X.bits W)
    have PA := hide (fun W => rparse_any (s := De s 24) (by rw [De_size]; omega) W)
    have PL := hide (fun l (h : parseK 0 (lb (De s 24)) = .ok l) => (show parE (De s 24) = 0 ∧ parL (De s 24) = l by unfold parE parL; rw [h]; exact ⟨rfl, rfl⟩))
    have PN := hide (fun y (h : parseK 0 (lb (De s 24)) = .error y) => (show parE (De s 24) = y by unfold parE; rw [h]))
    have DS := hide (drop_str s (n := 24) (by omega))
    have LD : lb (De s 24) = (lb s).drop 24 := lb_bs _
    rw [LD] at PL PN
    unfold ParseP at PA
    have SZi : (24 : Int) ≤ (s.size : Int) := by omega
    have SB : soundS X.addr X.bits = true := by rw [eX]; exact sound128 _
    have EB : (128 : Int) = X.bits := by rw [eX]
    generalize bs ((lb s).take 24) = hd at *
    generalize cutO hd 0 16 = oo at *
    clear hs RG1 RG2 hX h1 c1 c3 hdl eX LD hXf sz
    go_enter Try.func57, Try.ntmps57
    go_wp2_with fail
    refine (CU.out _).mono ?_
    rintro e w1 ⟨rfl, rfl⟩
    go_wp2_with fail
    refine (WP.out _).mono ?_
    rintro e w1 ⟨rfl, rfl⟩
    go_wp2_with fail
    refine (WV.out _).mono ?_
    rintro e w1 ⟨rfl, rfl⟩
    go_wp2_with fail
    refine (GA.out _).mono ?_
    rintro e w2 ⟨rfl, hb2⟩
    have H2 := hide ((rn_new w #[.int .u64 0, .int .u64 0, .int .i64 X.bits, .int .u32 (X.pref.toNat : Int), .int .u32 (X.valid.toNat : Int), .int .i64 0]).step hb2)
    have H3 := hide (H2.out.step (below_alloc w2 (.cells #[.int .u64 (hi X.addr : Nat), .int .u64 (lo X.addr : Nat)] 70)))
    have X3 := bx_new w2 70 #[.int .u64 (hi X.addr : Nat), .int .u64 (lo X.addr : Nat)]
    clear hb2 H2 H0 GA WP WV CU
    go_upto_region 18 with fail
    generalize w2.alloc (.cells #[.int .u64 (hi X.addr : Nat), .int .u64 (lo X.addr : Nat)] 70) = w3 at *
    generalize w2.heap.size = b12 at *
    have t0 := X3.cell 0
    have t1 := X3.cell 1
    have c0 := H3.out.box.cell 0
    have c1 := H3.out.box.cell 1
    have f0 := H3.out.box.free 0
    have f1 := H3.out.box.free 1
    simp at t0 t1 c0 c1
    have H4 := hide (show RNw w (cellsW X 0) ((w3.setCell ⟨w.heap.size + 1, 0, none⟩ (.int .u64 (hi X.addr : Nat))).setCell ⟨w.heap.size + 1, 1, none⟩ (.int .u64 (lo X.addr : Nat))) from (H3.out.set 0 _).set 1 _)
    clear H3 X3
    go_upto_region 19 with fail
    generalize (w3.setCell ⟨w.heap.size + 1, 0, none⟩ (.int .u64 (hi X.addr : Nat))).setCell ⟨w.heap.size + 1, 1, none⟩ (.int .u64 (lo X.addr : Nat)) = w4 at *
    clear t0 t1 c0 c1 f0 f1
    have H5 := H4
    clear H4 SD EB
    go_wp2_with fail
    rw [DS.out]
    refine (PA.out _).mono ?_
    rintro e w6 ⟨vl, rfl, OL, hb6⟩
    have H6 := hide (H5.out.step hb6)
    have LL := hide (ownO_lst OL)
    clear OL hb6 H5 PA DS
    cases hp : parseK 0 ((lb s).drop 24) with
    | error y =>
      have E := hide (GN.out SB y hp)
      have ey : (y != 0) = true := by have := parse_err0 hp; simpa using (show ¬ y = 0 by omega)
      rw [PN.out y hp]
      clear GN GS GO PL PN hp
      go_wp2_with (refine wpList_store_bx rfl (.tmp 4) (.tmp 72) rfl w.heap.size _ _ H6.out.res rfl rfl infoI rfl rfl ?_; intro w9 G9 F9)
      have D9 := hide (H6.out.below.trans (F9.below H6.out.below.size (fun k e => by omega)))
      have EE := hide E.out.1
      have EO := hide E.out.2
      have g0 := G9.cell 0
      have g1 := G9.cell 1
      have g2 := G9.cell 2
      have g3 := G9.cell 3
      have g4 := G9.cell 4
      have g5 := G9.cell 5
      simp at g0 g1 g2 g3 g4 g5
      clear E H6 F9 G9
      refine bodyPost_ret (v := .tuple #[.agg zeroI, .int .i64 y]) (by simp [results, Try.results57, go_sem, g0, g1, g2, g3, g4, g5]) rfl ⟨?_, D9.out⟩
      rw [EE.out, EO.out]; rfl
    | ok l =>
      obtain ⟨p1, p2, p3⟩ := parse_ok hp
      have ST := hide (fun W (h : LstO vl l W) => rstatuses_any p2 (by omega) W h)
      have GS := hide (GS.out SB l hp)
      have GO := hide (GO.out SB l hp)
      rw [(PL.out l hp).2] at LL
      rw [(PL.out l hp).1]
      clear GN PL PN hp p1 p2 p3
      obtain ⟨pl, cl, rfl⟩ := lstO_len LL.out
      cases hst : statF (-1) l with
      | error y =>
        have E := hide (GS.out y hst)
        have ey : (y != 0) = true := by have := statF_err l (-1) y hst; simpa using (show ¬ y = 0 by omega)
        have Z := st_no hst
        rw [Z.1, Z.2] at ST
        clear GS GO hst Z
        go_wp2_with fail
        refine (ST.out _ LL.out).mono ?_
        rintro e w7 ⟨rfl, rfl⟩
        go_wp2_with (refine wpList_store_bx rfl (.tmp 4) (.tmp 81) rfl w.heap.size _ _ H6.out.res rfl rfl infoI rfl rfl ?_; intro w9 G9 F9)
        have D9 := hide (H6.out.below.trans (F9.below H6.out.below.size (fun k e => by omega)))
        have EE := hide E.out.1
        have EO := hide E.out.2
        have g0 := G9.cell 0
        have g1 := G9.cell 1
        have g2 := G9.cell 2
        have g3 := G9.cell 3
        have g4 := G9.cell 4
        have g5 := G9.cell 5
        simp at g0 g1 g2 g3 g4 g5
        clear E H6 F9 G9
        refine bodyPost_ret (v := .tuple #[.agg zeroI, .int .i64 y]) (by simp [results, Try.results57, go_sem, g0, g1, g2, g3, g4, g5]) rfl ⟨?_, D9.out⟩
        rw [EE.out, EO.out]; rfl
      | ok cc =>
        have E := hide (GO.out cc hst)
        have Z := st_ok hst
        rw [Z.1, Z.2] at ST
        clear GS GO hst Z
        go_wp2_with fail
        refine (ST.out _ LL.out).mono ?_
        rintro e w7 ⟨rfl, rfl⟩
        clear LL ST
        have c5 := H6.out.box.cell 5
        have f5 := H6.out.box.free 5
        simp at c5
        have H7 := hide (show RNw w (cellsW X cc) (w6.setCell ⟨w.heap.size + 1, 5, none⟩ (.int .i64 cc)) from H6.out.set 5 _)
        clear H6
        go_wp2_with (first | (refine wpList_load_bx rfl (.tmp 6) rfl (w.heap.size + 1) _ H7.out.box rfl _ Try.underlying74 rfl infoI ?_) | (refine wpList_store_bx rfl (.tmp 4) (.tmp 85) rfl w.heap.size _ _ H7.out.res rfl rfl infoI rfl rfl ?_; intro w9 G9 F9))
        have D9 := hide (H7.out.below.trans (F9.below H7.out.below.size (fun k e => by omega)))
        have EE := hide E.out.1
        have EO := hide E.out.2
        have g0 := G9.cell 0
        have g1 := G9.cell 1
        have g2 := G9.cell 2
        have g3 := G9.cell 3
        have g4 := G9.cell 4
        have g5 := G9.cell 5
        simp at g0 g1 g2 g3 g4 g5
        clear E H7 F9 G9
        refine bodyPost_ret (v := .tuple #[.agg (cellsW X cc), .int .i64 0]) (by simp [results, Try.results57, go_sem, g0, g1, g2, g3, g4, g5]) rfl ⟨?_, D9.out⟩
        rw [EE.out, EO.out]
theorem rinner_any (k : Int) {s : ByteArray} (hs : s.size ≤ maxLen) (w : World) : Calls Try.prog 57 #[.int .i64 k, .string s] w (RRI k s w) := by
  by_cases hk : k = 4
  · exact rinner_four k hk hs w
  · exact rinner_rest k hk hs w
end Go.Proofs.Ytcpldojgmboipaa
