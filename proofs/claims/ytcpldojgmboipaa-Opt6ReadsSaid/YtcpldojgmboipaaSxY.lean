/-
  The contract of readIA: the walk. Condition: a string is no longer than an int.
-/
import Derived.Test.YtcpldojgmboipaaSxW
namespace Go.Proofs.Ytcpldojgmboipaa
open Go.RowKit Go.Joins

theorem cellsK_3 (s : ByteArray) : cellsK (mkA 3 (lb s) (-1, [])) (-1) (.slice none 0 0) = #[.int .i64 3, .int .u32 ((W4 s 0).toNat : Int), .int .u32 0, .int .u32 0, .slice none 0 0, .int .i64 (-1)] := rfl
theorem cellsK_n {k : Int} (h : ¬ k = 3) (s : ByteArray) : cellsK (mkA k (lb s) (-1, [])) (-1) (.slice none 0 0) = #[.int .i64 k, .int .u32 ((W4 s 0).toNat : Int), .int .u32 ((W4 s 4).toNat : Int), .int .u32 ((W4 s 8).toNat : Int), .slice none 0 0, .int .i64 (-1)] := by
  unfold mkA; rw [if_neg h]; rfl
theorem mkA_kind (k : Int) (s : List UInt8) (p : Int × List In) : (mkA k s p).kind = k := by unfold mkA; split <;> rfl
theorem ra_new (w w2 : World) (o : Opt) (k : Int) (h : Below w.heap.size w w2) (h1 : Bx w.heap.size 40 #[.int .u16 (o.1.toNat : Int), .string o.2] w2) (h2 : Bx (w.heap.size + 1) 37 zeroA w2) (hz : w2.heap.size = w.heap.size + 2) :
    RAw w o 0 #[.int .i64 k, .int .u32 0, .int .u32 0, .int .u32 0, .slice none 0 0, .int .i64 (-1)] ((w2.alloc (.cells #[.int .i64 k, .int .u32 0, .int .u32 0, .int .u32 0, .slice none 0 0, .int .i64 (-1)] 37)).alloc (.cells #[.string o.2] 54)) := by
  have B2 := below_alloc w2 (.cells #[.int .i64 k, .int .u32 0, .int .u32 0, .int .u32 0, .slice none 0 0, .int .i64 (-1)] 37)
  have B3 := below_alloc (w2.alloc (.cells #[.int .i64 k, .int .u32 0, .int .u32 0, .int .u32 0, .slice none 0 0, .int .i64 (-1)] 37)) (.cells #[.string o.2] 54)
  refine ⟨chain (chain h B2) B3, (h1.step B2).step B3, (h2.step B2).step B3, ?_, ?_⟩
  · have := (bx_new w2 37 #[.int .i64 k, .int .u32 0, .int .u32 0, .int .u32 0, .slice none 0 0, .int .i64 (-1)]).step B3
    rwa [hz] at this
  · have := rd_new (w2.alloc (.cells #[.int .i64 k, .int .u32 0, .int .u32 0, .int .u32 0, .slice none 0 0, .int .i64 (-1)] 37)) o.2
    rw [De_zero]
    rw [show (w2.alloc (.cells #[.int .i64 k, .int .u32 0, .int .u32 0, .int .u32 0, .slice none 0 0, .int .i64 (-1)] 37)).heap.size = w.heap.size + 3 by simp; omega] at this
    exact this
/-- .. and the box of the option at hand -/
def CKw (w : World) (cs : Array Value) (vh : Value) (has : List In) (v : Value) (l : List Opt) (b8 : Nat) (x : Opt) (W : World) : Prop := RKw w cs vh has v l W ∧ Bx b8 40 #[.int .u16 (x.1.toNat : Int), .string x.2] W
theorem CKw.step {w : World} {cs : Array Value} {vh v : Value} {has : List In} {l : List Opt} {b8 : Nat} {x : Opt} {W W2 : World} (h : CKw w cs vh has v l b8 x W) (hb : Below W.heap.size W W2) : CKw w cs vh has v l b8 x W2 := ⟨h.1.step hb, h.2.step hb⟩
theorem own_at {W : World} {g : Nat} {i : In} {t : TypeId} (h : W.heap[g]? = some (.cells (cellsV i).toArray t (0, 0))) : ∀ j u, (cellsI [i])[j]? = some u → W.cell? ((⟨g, 0, none⟩ : Go.Addr).add j) = some u := by
  intro j u hj
  rw [add_at, Nat.zero_add, cell_at h, ← hj]
  simp [cellsI]
set_option maxRecDepth 100000 in
set_option maxHeartbeats 8000000 in
theorem readIA_any (o : Opt) (hs : o.2.size ≤ maxLen) (w : World) : Calls Try.prog 54 #[OV o] w (RAP o w) := by
  have HS := hide hs
  have KO := hide (fun W => kindOf_any o.1 W)
  have D1 := hide (below_alloc w (.cells #[.int .u16 (o.1.toNat : Int), .string o.2] 40))
  have D2 := hide (below_alloc (w.alloc (.cells #[.int .u16 (o.1.toNat : Int), .string o.2] 40)) (.cells zeroA 37))
  by_cases h0 : kindK o.1.toNat = 0
  · have E := hide (readA_none h0)
    have M := hide (fun W => must_no 130 W)
    rw [h0] at KO
    clear h0 hs
    go_enter Try.func54, Try.ntmps54
    go_wp2_with fail
    refine (KO.out _).mono ?_
    rintro e w1 ⟨rfl, rfl⟩
    go_wp2_with fail
    refine (M.out _).mono ?_
    rintro e w2 ⟨rfl, rfl⟩
    exact ⟨rfl, rap_no E.out (Fr.ofBelow (chain D1.out D2.out))⟩
  · obtain ⟨k, hk⟩ : ∃ k, kindK o.1.toNat = k := ⟨_, rfl⟩
    have HK := hide hk
    have ks := kindK_sound h0
    have M := hide (fun W => must_yes 130 W)
    rw [hk] at ks
    rw [hk, show (!decide (k = 0)) = true by simp; omega] at KO
    have Z1 : (w.alloc (.cells #[.int .u16 (o.1.toNat : Int), .string o.2] 40)).heap.size = w.heap.size + 1 := by simp
    have Z2 : ((w.alloc (.cells #[.int .u16 (o.1.toNat : Int), .string o.2] 40)).alloc (.cells zeroA 37)).heap.size = w.heap.size + 2 := by simp
    have X1 := hide (bx_new w 40 #[.int .u16 (o.1.toNat : Int), .string o.2])
    have X2 := hide (bx_new (w.alloc (.cells #[.int .u16 (o.1.toNat : Int), .string o.2] 40)) 37 zeroA)
    rw [Z1] at X2
    have HR0 := hide (ra_new w _ o k (chain D1.out D2.out) (X1.out.step D2.out) X2.out Z2)
    clear hk hs Z1 Z2 X1 X2 D1 D2
    go_enter Try.func54, Try.ntmps54
    go_wp2_with fail
    refine (KO.out _).mono ?_
    rintro e w1 ⟨rfl, rfl⟩
    go_wp2_with fail
    refine (M.out _).mono ?_
    rintro e w2 ⟨rfl, rfl⟩
    have sp := sizeA_pos k
    by_cases q0 : o.2.size < 0 + 4
    · have E := hide (readA_short (o := o) h0 (by rw [HK.out]; omega))
      have TN := hide (tk32_no HS.out q0 HR0.out.rd)
      go_wp2_with fail
      refine TN.out.mono ?_
      rintro e wd ⟨rfl, hd⟩
      exact ⟨rfl, rap_no E.out (HR0.out.die hd)⟩
    · have TY := hide (tk32 HS.out (n := 0) (by omega) HR0.out.rd)
      go_wp2_with fail
      refine TY.out.mono ?_
      rintro e wr1 ⟨rfl, hr, hf⟩
      have HQ := hide (HR0.out.read hr hf)
      clear hr hf TY HR0
      have c1 := HQ.out.box.cell 1
      have f1 := HQ.out.box.free 1
      simp at c1
      have HR1 := hide (HQ.out.set 1 (.int .u32 ((W4 o.2 0).toNat : Int)))
      clear HQ
      go_upto_if 25 with fail
      go_cut [] (fun wx => RAw w o (sizeA k) (cellsK (mkA k (lb o.2) (-1, [])) (-1) (.slice none 0 0)) wx ∧ sizeA k ≤ o.2.size)
      case first =>
        by_cases h3 : k = 3
        · subst h3
          go_wp2
          go_meet
          exact ⟨HR1.out.cast rfl (by rw [cellsK_3]; rfl), by show 4 ≤ o.2.size; omega⟩
        · have e3 : (k != 3) = true := by simpa using h3
          have sz : sizeA k = 12 := by unfold sizeA; rw [if_neg h3]
          have h3 := hide h3
          by_cases q1 : o.2.size < 4 + 4
          · have E := hide (readA_short (o := o) h0 (by rw [HK.out]; omega))
            have TN := hide (tk32_no HS.out q1 HR1.out.rd)
            go_wp2_with fail
            refine TN.out.mono ?_
            rintro e wd ⟨rfl, hd⟩
            exact ⟨rfl, rap_no E.out (HR1.out.die hd)⟩
          · have TY := hide (tk32 HS.out (n := 4) (by omega) HR1.out.rd)
            go_wp2_with fail
            refine TY.out.mono ?_
            rintro e wr2 ⟨rfl, hr, hf⟩
            have HQ := hide (HR1.out.read hr hf)
            clear hr hf TY HR1
            have c2 := HQ.out.box.cell 2
            have f2 := HQ.out.box.free 2
            simp at c2
            have HR2 := hide (HQ.out.set 2 (.int .u32 ((W4 o.2 4).toNat : Int)))
            clear HQ
            by_cases q2 : o.2.size < 8 + 4
            · have E := hide (readA_short (o := o) h0 (by rw [HK.out]; omega))
              have TN := hide (tk32_no HS.out q2 HR2.out.rd)
              go_wp2_with fail
              refine TN.out.mono ?_
              rintro e wd ⟨rfl, hd⟩
              exact ⟨rfl, rap_no E.out (HR2.out.die hd)⟩
            · have TY := hide (tk32 HS.out (n := 8) (by omega) HR2.out.rd)
              go_wp2_with fail
              refine TY.out.mono ?_
              rintro e wr3 ⟨rfl, hr, hf⟩
              have HQ := hide (HR2.out.read hr hf)
              clear hr hf TY HR2
              have c3 := HQ.out.box.cell 3
              have f3 := HQ.out.box.free 3
              simp at c3
              have HR3 := hide (HQ.out.set 3 (.int .u32 ((W4 o.2 8).toNat : Int)))
              clear HQ
              go_wp2
              go_meet
              exact ⟨HR3.out.cast sz (by rw [cellsK_n h3.out]; rfl), by omega⟩
      case rest =>
        obtain ⟨HC, hz⟩ := hcut
        obtain ⟨A, hA⟩ : ∃ A, mkA k (lb o.2) (-1, []) = A := ⟨_, rfl⟩
        have kA : A.kind = k := by rw [← hA, mkA_kind]
        obtain ⟨g1, g2⟩ := readA_go HK.out (by omega) hz hA
        rw [hA] at HC
        have HC1 := hide HC
        have OP := hide (fun W (h : Rd (w.heap.size + 3) (De o.2 (sizeA k)) W) => options_at HS.out h)
        clear hA HC h0 ks q0 sp hz HR1
        go_wp2_with fail
        refine (OP.out _ HC1.out.rd).mono ?_
        intro e w7 h7
        unfold OptsP at h7
        rw [show lb (De o.2 (sizeA k)) = (lb o.2).drop (sizeA k) from lb_bs _] at h7
        cases hp : parseK 0 ((lb o.2).drop (sizeA k)) with
        | error y =>
          rw [hp] at h7
          obtain ⟨rfl, hd⟩ := h7
          exact ⟨rfl, rap_no (g1 y hp) (HC1.out.die hd)⟩
        | ok l =>
          rw [hp] at h7
          obtain ⟨v, rfl, q1, _, q2⟩ := h7
          have g4 := g2 l hp
          have OKL := hide (parse_ok hp).2.1
          have lenl := (parse_ok hp).2.2
          obtain ⟨p, c, rfl, hpc, _⟩ := lenO q1
          have HJ := hide (HC1.out.opts q1 q2)
          have GE := hide g4.1
          have GO := hide g4.2
          clear q1 q2 hp HC1 OP g1 g2 g4 KO M
          go_wp2_with fail
          go_loopw [32] (fun vi wr => ∃ (j : Nat) (cd : Int) (vh : Value) (has : List In), j ≤ l.length ∧ vi = .int .i64 (j : Nat) ∧ has.length ≤ 8 ∧ Hid (walkF k cd has (l.drop j) = walkF k (-1) [] l) ∧ Hid (RKw w (cellsK A cd vh) vh has (.slice p l.length c) l wr)) (fun vi _ => l.length - (intOf vi).toNat)
          case atStart => exact ⟨0, -1, _, [], Nat.zero_le _, rfl, Nat.zero_le _, hide rfl, HJ⟩
          case round =>
            obtain ⟨j, cd, vh, has, hj, rfl, hh8, HT, HM⟩ := hrel
            clear HJ
            by_cases hlt : j < l.length
            · obtain ⟨x, hx⟩ := getO_some hlt
              obtain ⟨b, ob, rfl, _, x1, x2⟩ := lstO_at (ownO_lst HM.out.row) hx
              have kc : j ≤ c := by omega
              have DR := hide (drop_at1 hx)
              have SZ := OKL.out x (List.mem_of_getElem? hx)
              have M1 := hide (HM.out.step (below_alloc wr (.cells #[.int .u16 (x.1.toNat : Int), .string x.2] 40)))
              have X1 := hide (bx_new wr 40 #[.int .u16 (x.1.toNat : Int), .string x.2])
              by_cases h13 : x.1.toNat = 13
              · have e13 : ((x.1.toNat : Int) == 13) = true := by simpa using (show (x.1.toNat : Int) = 13 by omega)
                by_cases h2 : x.2.size < 2
                · have E := hide (GE.out 130 (by rw [← HT.out, DR.out, (walkF_13 h13).1 h2]))
                  have RS := hide (fun W => readStatus_no (s := x.2) (by unfold maxLen; omega) h2 ⟨w.heap.size + 2, 5, none⟩ W)
                  clear hx h13 h2 HT HM DR SZ X1
                  go_wp2_with fail
                  refine (RS.out _).mono ?_
                  rintro e w8 ⟨rfl, hd⟩
                  exact ⟨rfl, rap_no E.out (Fr.ofBelow (chain M1.out.below hd.toBelow))⟩
                · have HT2 := hide (show walkF k (if cd = -1 then (beV ((lb x.2).take 2) : Nat) else cd) has (l.drop (j + 1)) = walkF k (-1) [] l by rw [← HT.out, DR.out, (walkF_13 h13).2 h2])
                  have k5 : (wr.alloc (.cells #[.int .u16 (x.1.toNat : Int), .string x.2] 40)).cell? ⟨w.heap.size + 2, 5, none⟩ = some (.int .i64 cd) := M1.out.box.cell 5
                  have z5 := M1.out.box.free 5
                  have RS := hide (readStatus_ok (s := x.2) (by unfold maxLen; omega) h2 ⟨w.heap.size + 2, 5, none⟩ cd _ k5 z5)
                  clear hx h13 h2 HT HM DR SZ X1 k5 z5
                  go_wp2_with fail
                  refine RS.out.mono ?_
                  rintro e w8 ⟨rfl, h8⟩
                  have M8 : RKw w (cellsK A (if cd = -1 then (beV ((lb x.2).take 2) : Nat) else cd) vh) vh has (.slice (some ⟨b, ob, none⟩) l.length c) l w8 := by
                    by_cases hc : cd = -1
                    · rw [if_pos hc] at h8 ⊢
                      rw [h8]
                      exact M1.out.set 5 _
                    · rw [if_neg hc] at h8 ⊢
                      rw [h8]
                      exact M1.out
                  have M9 := hide M8
                  clear M8 h8 M1 RS
                  generalize (if cd = -1 then ((beV ((lb x.2).take 2) : Nat) : Int) else cd) = ce at *
                  go_wp2
                  go_roundw
                  case rel => exact ⟨j + 1, ce, vh, has, hlt, by go_num, hh8, HT2, M9⟩
                  case measure => simp [intOf]; omega
              · have e13 : ((x.1.toNat : Int) == 13) = false := by simpa using (show ¬ (x.1.toNat : Int) = 13 by omega)
                have CW := hide (fun W => codeWithin_any k W)
                by_cases hin : x.1.toNat = (codeW k).toNat
                · have ein : ((x.1.toNat : Int) == ((codeW k).toNat : Int)) = true := by rw [hin]; simp
                  by_cases h8 : 8 ≤ has.length
                  · have E := hide (GE.out 6 (by rw [← HT.out, DR.out, (walkF_in hin).1 h8]))
                    have M0 := hide (fun W => must_no 6 W)
                    obtain ⟨ph, ch, rfl⟩ := lstI_len (ownI_lst HM.out.hs)
                    have c4 : (wr.alloc (.cells #[.int .u16 (x.1.toNat : Int), .string x.2] 40)).cell? ⟨w.heap.size + 2, 4, none⟩ = some (.slice ph has.length ch) := M1.out.box.cell 4
                    have n8 : ¬ (has.length : Int) < 8 := by omega
                    generalize (codeW k).toNat = cw at *
                    clear hx h13 HT HM DR SZ X1 hin
                    go_wp2_with fail
                    refine (CW.out _).mono ?_
                    rintro e w8 ⟨rfl, rfl⟩
                    go_wp2_with fail
                    rw [decide_eq_false (show ¬ (has.length : Int) < 8 by omega)]
                    refine (M0.out _).mono ?_
                    rintro e w9 ⟨rfl, rfl⟩
                    exact ⟨rfl, rap_no E.out (Fr.ofBelow M1.out.below)⟩
                  · have M0 := hide (fun W => must_yes 6 W)
                    obtain ⟨ph, ch, rfl⟩ := lstI_len (ownI_lst HM.out.hs)
                    have c4 : (wr.alloc (.cells #[.int .u16 (x.1.toNat : Int), .string x.2] 40)).cell? ⟨w.heap.size + 2, 4, none⟩ = some (.slice ph has.length ch) := M1.out.box.cell 4
                    have n8 : (has.length : Int) < 8 := by omega
                    have WI := (walkF_in (r := l.drop (j + 1)) (c := cd) (has := has) hin).2 h8
                    rw [← DR.out, HT.out] at WI
                    have RI := hide (fun W => readInner_any k (s := x.2) (by unfold maxLen; omega) W)
                    generalize (codeW k).toNat = cw at *
                    clear hx h13 HT HM DR SZ hin h8
                    go_wp2_with fail
                    refine (CW.out _).mono ?_
                    rintro e w8 ⟨rfl, rfl⟩
                    go_wp2_with fail
                    refine (M0.out _).mono ?_
                    rintro e w9 ⟨rfl, rfl⟩
                    have y1 := X1.out.cell 1
                    simp at y1
                    generalize wr.alloc (.cells #[.int .u16 (x.1.toNat : Int), .string x.2] 40) = w1 at *
                    clear CW M0 e13 ein x1 x2
                    cases hr : readI k (lb x.2) with
                    | error y =>
                      have E := hide (GE.out y (WI.1 y hr))
                      have RD := hide (fun W => (show Calls Try.prog 78 #[.int .i64 k, .string x.2] W (Dies y No W) by have := RI.out W; unfold RIP at this; rw [hr] at this; exact this))
                      have BB := hide M1.out.below
                      have HC := hide (show CKw w (cellsK A cd (.slice ph has.length ch)) (.slice ph has.length ch) has (.slice (some ⟨b, ob, none⟩) l.length c) l wr.heap.size x w1 from ⟨M1.out, X1.out⟩)
                      clear hr RI WI M1 X1 GE GO
                      go_wp2_with fail
                      refine wp_region_relT 7 3 (CKw w (cellsK A cd (.slice ph has.length ch)) (.slice ph has.length ch) has (.slice (some ⟨b, ob, none⟩) l.length c) l wr.heap.size x) [some 53, some 54, some 55, some 56, some 57, some 58, some 59] [fun yy _ => yy = .pointer (some ⟨w.heap.size + 1 + 1, 4, none⟩), fun yy _ => yy = .slice ph has.length ch, fun yy _ => yy = .int .i64 k, fun yy _ => yy = .pointer (some ⟨wr.heap.size, 1, none⟩), fun yy _ => yy = .string x.2, fun _ _ => False, fun _ _ => False] 64 (by kernel_rfl) rfl (by omega) (by kernel_rfl) (by kernel_rfl) rfl rfl (HC.out.step (Below.refl _ _).drew) ?_ ?_
                      · refine ⟨⟨fun _ _ _ h _ => h, fun a' W K hD hC hd hf hK => ?_⟩, ⟨fun _ _ _ h _ => h, fun a' W K hD hC hd hf hK => ?_⟩, ⟨fun _ _ _ h _ => h, fun a' W K hD hC hd hf hK => ?_⟩, ⟨fun _ _ _ h _ => h, fun a' W K hD hC hd hf hK => ?_⟩, ⟨fun _ _ _ h _ => h, fun a' W K hD hC hd hf hK => ?_⟩, ⟨fun _ _ _ h _ => h, fun a' W K hD hC hd hf hK => ?_⟩, ⟨fun _ _ _ h _ => h, fun a' W K hD hC hd hf hK => ?_⟩, trivial⟩
                        · refine op_plain rfl ?_
                          have f5 : a'.tmps[5]?.getD undef = .pointer (some ⟨w.heap.size + 1 + 1, 0, none⟩) := (hf.out 5 (by kernel_rfl)).trans (by simp)
                          go_simp
                          exact hK.out _ _ hC (Below.refl _ _) rfl
                        · refine op_plain rfl ?_
                          have d53 : a'.tmps[53]?.getD undef = .pointer (some ⟨w.heap.size + 1 + 1, 4, none⟩) := hd.out 0 53 (by kernel_rfl) rfl
                          obtain ⟨hM, hX⟩ := id hC
                          have y4 : W.cell? ⟨w.heap.size + 1 + 1, 4, none⟩ = some (.slice ph has.length ch) := hM.box.cell 4
                          have y1 : W.cell? ⟨wr.heap.size, 1, none⟩ = some (.string x.2) := hX.cell 1
                          go_simp
                          exact hK.out _ _ hC (Below.refl _ _) rfl
                        · refine op_plain rfl ?_
                          have f3 : a'.tmps[3]?.getD undef = .int .i64 k := (hf.out 3 (by kernel_rfl)).trans (by simp)
                          go_simp
                          exact hK.out _ _ hC (Below.refl _ _) rfl
                        · refine op_plain rfl ?_
                          have f8 : a'.tmps[8]?.getD undef = .pointer (some ⟨wr.heap.size, 0, none⟩) := (hf.out 8 (by kernel_rfl)).trans (by simp)
                          go_simp
                          exact hK.out _ _ hC (Below.refl _ _) rfl
                        · refine op_plain rfl ?_
                          have d56 : a'.tmps[56]?.getD undef = .pointer (some ⟨wr.heap.size, 1, none⟩) := hd.out 3 56 (by kernel_rfl) rfl
                          obtain ⟨hM, hX⟩ := id hC
                          have y4 : W.cell? ⟨w.heap.size + 1 + 1, 4, none⟩ = some (.slice ph has.length ch) := hM.box.cell 4
                          have y1 : W.cell? ⟨wr.heap.size, 1, none⟩ = some (.string x.2) := hX.cell 1
                          go_simp
                          exact hK.out _ _ hC (Below.refl _ _) rfl
                        · refine op_plain rfl ?_
                          have d55 : a'.tmps[55]?.getD undef = .int .i64 k := hd.out 2 55 (by kernel_rfl) rfl
                          have d57 : a'.tmps[57]?.getD undef = .string x.2 := hd.out 4 57 (by kernel_rfl) rfl
                          go_simp
                          go_at_call 78
                          refine (RD.out W).mono ?_
                          rintro e w8 ⟨rfl, hd2⟩
                          exact ⟨hD.out, rap_no E.out (Fr.ofBelow (chain hC.1.below hd2.toBelow))⟩
                        · refine op_plain rfl ?_
                          have d58 := hd.out 5 58 (by kernel_rfl) rfl
                          exact (show False from d58).elim
                      · intro vs W5 hC hR
                        have q0 : vs 0 = .pointer (some ⟨w.heap.size + 1 + 1, 4, none⟩) := hR.out 0 (by decide)
                        have q1 : vs 1 = .slice ph has.length ch := hR.out 1 (by decide)
                        have q2 : vs 2 = .int .i64 k := hR.out 2 (by decide)
                        have q3 : vs 3 = .pointer (some ⟨wr.heap.size, 1, none⟩) := hR.out 3 (by decide)
                        have q4 : vs 4 = .string x.2 := hR.out 4 (by decide)
                        have r5 := hR.out 5 (by decide)
                        generalize hq5 : vs 5 = q5 at *
                        change (fun _ _ => False) q5 W5 at r5
                        have r6 := hR.out 6 (by decide)
                        generalize hq6 : vs 6 = q6 at *
                        change (fun _ _ => False) q6 W5 at r6
                        simp only [List.drop_succ_cons, List.drop_zero, fillF, Act.put, List.setIfInBounds_toArray, List.set_cons_zero, List.set_cons_succ, Nat.reduceAdd, q0, q1, q2, q3, q4, hq5, hq6]
                        clear hR q0 q1 q2 q3 q4 hq5 hq6
                        exact (show False from r5).elim
                    | ok i =>
                      have RG := hide (fun W => (show Calls Try.prog 78 #[.int .i64 k, .string x.2] W (Gives (IV i) W) by have := RI.out W; unfold RIP at this; rw [hr] at this; exact this))
                      have HT2 := hide (WI.2 i hr).symm
                      have HC := hide (show CKw w (cellsK A cd (.slice ph has.length ch)) (.slice ph has.length ch) has (.slice (some ⟨b, ob, none⟩) l.length c) l wr.heap.size x w1 from ⟨M1.out, X1.out⟩)
                      clear hr RI WI M1 X1 GE GO
                      go_wp2_with fail
                      refine wp_region_relT 7 3 (CKw w (cellsK A cd (.slice ph has.length ch)) (.slice ph has.length ch) has (.slice (some ⟨b, ob, none⟩) l.length c) l wr.heap.size x) [some 53, some 54, some 55, some 56, some 57, some 58, some 59] [fun yy _ => yy = .pointer (some ⟨w.heap.size + 1 + 1, 4, none⟩), fun yy _ => yy = .slice ph has.length ch, fun yy _ => yy = .int .i64 k, fun yy _ => yy = .pointer (some ⟨wr.heap.size, 1, none⟩), fun yy _ => yy = .string x.2, fun yy _ => yy = IV i, fun yy W => ∃ g, yy = .slice (some ⟨g, 0, none⟩) 1 1 ∧ W.heap[g]? = some (.cells (cellsV i).toArray 74 (0, 0))] 64 (by kernel_rfl) rfl (by omega) (by kernel_rfl) (by kernel_rfl) rfl rfl (HC.out.step (Below.refl _ _).drew) ?_ ?_
                      · refine ⟨⟨fun _ _ _ h _ => h, fun a' W K hD hC hd hf hK => ?_⟩, ⟨fun _ _ _ h _ => h, fun a' W K hD hC hd hf hK => ?_⟩, ⟨fun _ _ _ h _ => h, fun a' W K hD hC hd hf hK => ?_⟩, ⟨fun _ _ _ h _ => h, fun a' W K hD hC hd hf hK => ?_⟩, ⟨fun _ _ _ h _ => h, fun a' W K hD hC hd hf hK => ?_⟩, ⟨fun _ _ _ h _ => h, fun a' W K hD hC hd hf hK => ?_⟩, ⟨fun _ W W2 ⟨g, e, h⟩ hb => ⟨g, e, (hb.block g (lt_of_block h)).trans h⟩, fun a' W K hD hC hd hf hK => ?_⟩, trivial⟩
                        · refine op_plain rfl ?_
                          have f5 : a'.tmps[5]?.getD undef = .pointer (some ⟨w.heap.size + 1 + 1, 0, none⟩) := (hf.out 5 (by kernel_rfl)).trans (by simp)
                          go_simp
                          exact hK.out _ _ hC (Below.refl _ _) rfl
                        · refine op_plain rfl ?_
                          have d53 : a'.tmps[53]?.getD undef = .pointer (some ⟨w.heap.size + 1 + 1, 4, none⟩) := hd.out 0 53 (by kernel_rfl) rfl
                          obtain ⟨hM, hX⟩ := id hC
                          have y4 : W.cell? ⟨w.heap.size + 1 + 1, 4, none⟩ = some (.slice ph has.length ch) := hM.box.cell 4
                          have y1 : W.cell? ⟨wr.heap.size, 1, none⟩ = some (.string x.2) := hX.cell 1
                          go_simp
                          exact hK.out _ _ hC (Below.refl _ _) rfl
                        · refine op_plain rfl ?_
                          have f3 : a'.tmps[3]?.getD undef = .int .i64 k := (hf.out 3 (by kernel_rfl)).trans (by simp)
                          go_simp
                          exact hK.out _ _ hC (Below.refl _ _) rfl
                        · refine op_plain rfl ?_
                          have f8 : a'.tmps[8]?.getD undef = .pointer (some ⟨wr.heap.size, 0, none⟩) := (hf.out 8 (by kernel_rfl)).trans (by simp)
                          go_simp
                          exact hK.out _ _ hC (Below.refl _ _) rfl
                        · refine op_plain rfl ?_
                          have d56 : a'.tmps[56]?.getD undef = .pointer (some ⟨wr.heap.size, 1, none⟩) := hd.out 3 56 (by kernel_rfl) rfl
                          obtain ⟨hM, hX⟩ := id hC
                          have y4 : W.cell? ⟨w.heap.size + 1 + 1, 4, none⟩ = some (.slice ph has.length ch) := hM.box.cell 4
                          have y1 : W.cell? ⟨wr.heap.size, 1, none⟩ = some (.string x.2) := hX.cell 1
                          go_simp
                          exact hK.out _ _ hC (Below.refl _ _) rfl
                        · refine op_plain rfl ?_
                          have d55 : a'.tmps[55]?.getD undef = .int .i64 k := hd.out 2 55 (by kernel_rfl) rfl
                          have d57 : a'.tmps[57]?.getD undef = .string x.2 := hd.out 4 57 (by kernel_rfl) rfl
                          go_simp
                          go_at_call 78
                          refine (RG.out W).mono ?_
                          rintro e w8 ⟨rfl, hb8⟩
                          exact hK.out _ _ (hC.step hb8) hb8 rfl
                        · refine op_plain rfl ?_
                          have d58 : a'.tmps[58]?.getD undef = IV i := hd.out 5 58 (by kernel_rfl) rfl
                          go_simp
                          exact hK.out _ _ (hC.step (below_alloc _ _)) (below_alloc _ _) ⟨W.heap.size, rfl, heap_alloc_new _ _⟩
                      · intro vs W5 hC hR
                        have q0 : vs 0 = .pointer (some ⟨w.heap.size + 1 + 1, 4, none⟩) := hR.out 0 (by decide)
                        have q1 : vs 1 = .slice ph has.length ch := hR.out 1 (by decide)
                        have q2 : vs 2 = .int .i64 k := hR.out 2 (by decide)
                        have q3 : vs 3 = .pointer (some ⟨wr.heap.size, 1, none⟩) := hR.out 3 (by decide)
                        have q4 : vs 4 = .string x.2 := hR.out 4 (by decide)
                        have q5 : vs 5 = IV i := hR.out 5 (by decide)
                        have r6 := hR.out 6 (by decide)
                        generalize hq6 : vs 6 = q6 at *
                        change (fun yy W => ∃ g, yy = .slice (some ⟨g, 0, none⟩) 1 1 ∧ W.heap[g]? = some (.cells (cellsV i).toArray 74 (0, 0))) q6 W5 at r6
                        simp only [List.drop_succ_cons, List.drop_zero, fillF, Act.put, List.setIfInBounds_toArray, List.set_cons_zero, List.set_cons_succ, Nat.reduceAdd, q0, q1, q2, q3, q4, q5, hq6]
                        clear hR q0 q1 q2 q3 q4 q5 hq6
                        have HM5 := hide hC.1
                        obtain ⟨g, e6, h6⟩ := r6
                        subst e6
                        clear hC HC
                        go_wp2_with (at_builtin; refine wpList_append_oneI rfl (.tmp 54) (.tmp 59) rfl (w.heap.size + 4) _ has rfl HM5.out.hs g 1 i rfl (own_at h6) (by omega) HM5.out.room ?_; intro gn capn w7 q1 q2 q3 q4; have HN := hide (HM5.out.add q1 q3); have c4n : w7.cell? ⟨w.heap.size + 1 + 1, 4, none⟩ = some (.slice ph has.length ch) := HN.out.box.cell 4; have f4n : w7.frozen? ⟨w.heap.size + 1 + 1, 4, none⟩ = false := HN.out.box.free 4)
                        have HN2 := hide (HN.out.set 4 (.slice (some ⟨gn, 0, none⟩) (has.length + 1) capn))
                        clear HM5 q1 q2 q3 q4 HN c4n f4n h6
                        go_wp2
                        go_roundw
                        case rel => exact ⟨j + 1, cd, _, has ++ [i], hlt, by go_num, by rw [List.length_append]; exact (by omega : has.length + 1 ≤ 8), HT2, HN2⟩
                        case measure => simp [intOf]; omega
                · have ein : ((x.1.toNat : Int) == ((codeW k).toNat : Int)) = false := by simpa using (show ¬ (x.1.toNat : Int) = ((codeW k).toNat : Int) by omega)
                  have HT2 := hide (show walkF k cd has (l.drop (j + 1)) = walkF k (-1) [] l by rw [← HT.out, DR.out, walkF_no h13 hin])
                  generalize (codeW k).toNat = cw at *
                  clear hx h13 HT HM DR SZ X1 hin
                  go_wp2_with fail
                  refine (CW.out _).mono ?_
                  rintro e w8 ⟨rfl, rfl⟩
                  go_wp2
                  go_roundw
                  case rel => exact ⟨j + 1, cd, vh, has, hlt, by go_num, hh8, HT2, M1⟩
                  case measure => simp [intOf]; omega
            · have : j = l.length := by omega
              subst this
              have E := hide (GO.out (cd, has) (by rw [← HT.out, List.drop_length]; rfl))
              obtain ⟨ph, ch, rfl⟩ := lstI_len (ownI_lst HM.out.hs)
              clear HT GE GO hlt
              go_wp2_with (first | (refine wpList_load_bx rfl (.tmp 5) rfl (w.heap.size + 2) _ HM.out.box rfl _ Try.underlying37 rfl infoIA ?_) | (refine wpList_store_bx rfl (.tmp 2) (.tmp 63) rfl (w.heap.size + 1) _ _ HM.out.res rfl rfl infoIA rfl rfl ?_; intro w9 G9 F9))
              exact bodyPost_ret (v := AV { A with code := cd, has := has } (.slice ph has.length ch)) (results_cell_row rfl _ _ (w.heap.size + 1) _ _ _ _ rfl G9 Try.underlying37 rfl infoIA) rfl (rap_ok E.out (own_fr (ownI_base HM.out.hs (by omega)) F9 (fun g e1 e2 => by have := own_ge HM.out.hs g e1.symm; omega)) (HM.out.below.trans (F9.below HM.out.below.size (fun k e => by omega))))
end Go.Proofs.Ytcpldojgmboipaa
