/-
  The law Wire4Back: messages there and back. Condition: a row of options takes at most 2^47 bytes.
-/
import Derived.Test.YtmoklodaeicpgaaWP
namespace Go.Proofs.Ytmoklodaeicpgaa
open Go.RowKit Go.Joins

set_option maxRecDepth 100000 in
set_option maxHeartbeats 16000000 in
theorem back_1 (m : Hd) (s : ByteArray) {v : Value} {l : List Opt} (hl : l.length * 24 ≤ 140737488355328) (w : World) (hv : LstO v l w) (c1 : soundM (m, l) = false) (c2 : encE (m, l) = 141) (c3 : encS (m, l) = []) :
    Calls Try.prog 5 #[MV m v, .string s] w (Gives (.bool true) w) := by
  have B0 := hide (box_new w m v)
  have D0 := hide (below_alloc w (.cells (cellsM m v) 26))
  have HV := hide (fun W (H : Below w.heap.size w W) => hv.step H)
  have AW := hide (fun W => awake_any W)
  have EN := hide (fun W (h : LstO v l W) => encode_any m hl W h)
  have SO := hide (fun W (h : LstO v l W) => msound_any m hl W h)
  have SY := hide (fun (va vb : Value) W (ha : LstO va l W) (hb : LstO vb l W) => same_yes m hl W ha hb)
  -- what the second half wants
  obtain ⟨ns, hs, ls, hD⟩ : ∃ ns hs ls, decR s = (ns, hs, ls) := ⟨_, _, _, rfl⟩
  have DS := hide (fun W => dec_q hD W)
  have LS : ls.length ≤ 128 := by have := dec_len s; rw [hD] at this; exact this
  have BAD := hide (show ns ≠ 0 → hs = zeroH ∧ ls = [] by
    intro h
    have := dec_bad (s := s) (by rw [hD]; exact h)
    rw [hD] at this
    exact Prod.mk.inj this)
  have AG := hide (show ns = 0 → s.size ≤ 65251 → encE (hs, ls) = 0 by
    intro h h2
    have := dec_again (s := s) (by rw [hD]; exact h) h2
    rw [hD] at this
    exact this)
  obtain ⟨pv, cv, rfl⟩ := lstO_len hv
  clear hv hD
  go_enter Try.func5, Try.ntmps5
  go_wp2_with fail
  refine (AW.out _).mono ?_
  rintro e w1 ⟨rfl, hb1⟩
  have B1 := hide (B0.out.step hb1)
  have D1 := hide (D0.out.trans (hb1.mono D0.out.size))
  clear hb1 B0 D0 AW
  go_wp2_with (refine wpList_load_box rfl (.tmp 2) rfl w.heap.size m (.slice pv l.length cv) rfl B1.out ?_)
  refine (EN.out _ (HV.out _ D1.out)).mono ?_
  rintro e w2 ⟨rfl, hb2⟩
  have B2 := hide (B1.out.step hb2)
  have D2 := hide (D1.out.trans (hb2.mono D1.out.size))
  clear hb2 B1 D1 EN
  · rw [c2, c3]
    rw [c1] at SO
    obtain ⟨x0, x1, x2, x3, x4, x5, x6, x7, x8, x9, x10, x11, x12, x13, x14⟩ := B2.out.cells
    clear c1 c2 c3 SY
    go_wp2_with fail
    refine (SO.out _ (HV.out _ D2.out)).mono ?_
    rintro e w3 ⟨rfl, hb3⟩
    have D3 := hide (D2.out.trans (hb3.mono D2.out.size))
    clear hb3 SO B2 D2 x0 x1 x2 x3 x4 x5 x6 x7 x8 x9 x10 x11 x12 x13 x14
    go_wp2_with fail
    refine (DS.out _).mono ?_
    rintro e w20 ⟨p9, c9, rfl, hb20, ho20⟩
    have D20 := hide (D3.out.trans (hb20.mono D3.out.size))
    have O20 := hide ho20
    have N20 := hide (box_new w20 zeroH (.slice none 0 0))
    have K20 := hide (below_alloc w20 (.cells (cellsM zeroH (.slice none 0 0)) 26))
    clear hb20 ho20 DS D3
    by_cases hn : ns = 0
    · subst hn
      have AG2 := AG.out rfl
      by_cases hsz : s.size ≤ 65251
      · have Q : ¬ (65251 : Int) < (s.size : Int) := by omega
        have AG3 := hide (AG2 hsz)
        have DE := hide (fun W => dec_q (dec_enc (AG2 hsz)) W)
        have E2 := hide (fun W (h : LstO (.slice p9 ls.length c9) ls W) => (show Calls Try.prog 12 #[MV hs (.slice p9 ls.length c9)] W (Gives (.tuple #[.string (bs (encS (hs, ls))), .int .i64 0]) W) by
          have t := encode_any hs (l := ls) (by omega) W h
          unfold EncP at t
          rw [AG2 hsz] at t
          exact t))
        have SY2 := hide (fun (va vb : Value) W (ha : LstO va ls W) (hb : LstO vb ls W) => same_yes hs (l := ls) (by omega) W ha hb)
        generalize bs (encS (hs, ls)) = tt at *
        clear AG AG2 hsz AG3 BAD
        go_wp2_with (first | (refine wpList_load_box rfl (.tmp 9) rfl w20.heap.size hs (.slice p9 ls.length c9) rfl G21.out ?_) | (refine wpList_store_box rfl (.tmp 9) (.tmp 56) rfl w20.heap.size _ hs _ (.slice p9 ls.length c9) rfl rfl rfl N20.out ?_; intro w21 g21 b21 z21; have G21 := hide g21; have K21 := hide (show Below w20.heap.size w20 w21 from K20.out.trans (b21 _ (Nat.le_refl _))); have O21 := hide (O20.out.step K21.out); have D21 := hide (D20.out.trans (K21.out.mono D20.out.size)); clear g21 b21 z21 N20 K20 O20 D20))
        refine (E2.out _ O21.out).mono ?_
        rintro e w22 ⟨rfl, hb22⟩
        have G22 := hide (G21.out.step hb22)
        have O22 := hide (O21.out.step hb22)
        have D22 := hide (D21.out.trans (hb22.mono D21.out.size))
        clear hb22 G21 O21 D21 K21 E2
        go_wp2_with fail
        refine (DE.out _).mono ?_
        rintro e w23 ⟨p8, c8, rfl, hb23, ho23⟩
        have N23 := hide (box_new w23 zeroH (.slice none 0 0))
        have K23 := hide (below_alloc w23 (.cells (cellsM zeroH (.slice none 0 0)) 26))
        have G23 := hide (G22.out.step hb23)
        have O23 := hide (O22.out.step hb23)
        have P23 := hide ho23
        have D23 := hide (D22.out.trans (hb23.mono D22.out.size))
        clear hb23 G22 O22 D22 DE ho23
        go_wp2_with (refine wpList_store_box rfl (.tmp 10) (.tmp 74) rfl w23.heap.size _ hs _ (.slice p8 ls.length c8) rfl rfl rfl N23.out ?_; intro w24 g24 b24 z24; have K24 := hide (show Below w23.heap.size w23 w24 from K23.out.trans (b24 _ (Nat.le_refl _))); have G24 := hide (G23.out.step K24.out); have O24 := hide (O23.out.step K24.out); have P24 := hide (P23.out.step K24.out); have D24 := hide (D23.out.trans (K24.out.mono D23.out.size)); obtain ⟨x0, x1, x2, x3, x4, x5, x6, x7, x8, x9, x10, x11, x12, x13, x14⟩ := g24.cells; obtain ⟨y0, y1, y2, y3, y4, y5, y6, y7, y8, y9, y10, y11, y12, y13, y14⟩ := G24.out.cells; clear g24 b24 z24 N23 K23 G23 O23 P23 D23 K24 G24)
        refine (SY2.out _ _ _ P24.out O24.out).mono ?_
        rintro e w25 ⟨rfl, hb25⟩
        have D25 := hide (D24.out.trans (hb25.mono D24.out.size))
        clear hb25 x0 x1 x2 x3 x4 x5 x6 x7 x8 x9 x10 x11 x12 x13 x14 y0 y1 y2 y3 y4 y5 y6 y7 y8 y9 y10 y11 y12 y13 y14
        go_wp2
        go_ret
        exact ⟨rfl, D25.out⟩
      · have Q : (65251 : Int) < (s.size : Int) := by omega
        clear AG AG2 hsz BAD
        go_wp2_with (refine wpList_store_box rfl (.tmp 9) (.tmp 56) rfl w20.heap.size _ hs _ (.slice p9 ls.length c9) rfl rfl rfl N20.out ?_; intro w21 g21 b21 z21; have K21 := hide (show Below w20.heap.size w20 w21 from K20.out.trans (b21 _ (Nat.le_refl _))); have D21 := hide (D20.out.trans (K21.out.mono D20.out.size)); clear g21 b21 z21 N20 K20 O20 D20)
        go_ret
        exact ⟨rfl, D21.out⟩
    · obtain ⟨rfl, rfl⟩ := BAD.out hn
      have Q : ¬ ((ns : Nat) : Int) = 0 := by omega
      have SY2 := hide (fun (va vb : Value) W (ha : LstO va [] W) (hb : LstO vb [] W) => same_yes zeroH (l := []) (by simp) W ha hb)
      clear AG BAD hn
      go_wp2_with (first | (refine wpList_load_box rfl (.tmp 9) rfl w20.heap.size zeroH (.slice p9 0 c9) rfl G21.out ?_) | (refine wpList_store_box rfl (.tmp 9) (.tmp 56) rfl w20.heap.size _ zeroH _ (.slice p9 0 c9) rfl rfl rfl N20.out ?_; intro w21 g21 b21 z21; have G21 := hide g21; have K21 := hide (show Below w20.heap.size w20 w21 from K20.out.trans (b21 _ (Nat.le_refl _))); have O21 := hide (O20.out.step K21.out); have D21 := hide (D20.out.trans (K21.out.mono D20.out.size)); clear g21 b21 z21 N20 K20 O20 D20))
      refine (SY2.out _ _ _ O21.out (lst_nil _)).mono ?_
      rintro e w25 ⟨rfl, hb25⟩
      have D25 := hide (D21.out.trans (hb25.mono D21.out.size))
      clear hb25
      go_wp2
      go_ret
      exact ⟨rfl, D25.out⟩
set_option maxRecDepth 100000 in
set_option maxHeartbeats 16000000 in
theorem back_2 (m : Hd) (s : ByteArray) {v : Value} {l : List Opt} (hl : l.length * 24 ≤ 140737488355328) (w : World) (hv : LstO v l w) (c1 : soundM (m, l) = true) (c2 : encE (m, l) = 6) (c3 : encS (m, l) = []) :
    Calls Try.prog 5 #[MV m v, .string s] w (Gives (.bool true) w) := by
  have B0 := hide (box_new w m v)
  have D0 := hide (below_alloc w (.cells (cellsM m v) 26))
  have HV := hide (fun W (H : Below w.heap.size w W) => hv.step H)
  have AW := hide (fun W => awake_any W)
  have EN := hide (fun W (h : LstO v l W) => encode_any m hl W h)
  have SO := hide (fun W (h : LstO v l W) => msound_any m hl W h)
  have SY := hide (fun (va vb : Value) W (ha : LstO va l W) (hb : LstO vb l W) => same_yes m hl W ha hb)
  -- what the second half wants
  obtain ⟨ns, hs, ls, hD⟩ : ∃ ns hs ls, decR s = (ns, hs, ls) := ⟨_, _, _, rfl⟩
  have DS := hide (fun W => dec_q hD W)
  have LS : ls.length ≤ 128 := by have := dec_len s; rw [hD] at this; exact this
  have BAD := hide (show ns ≠ 0 → hs = zeroH ∧ ls = [] by
    intro h
    have := dec_bad (s := s) (by rw [hD]; exact h)
    rw [hD] at this
    exact Prod.mk.inj this)
  have AG := hide (show ns = 0 → s.size ≤ 65251 → encE (hs, ls) = 0 by
    intro h h2
    have := dec_again (s := s) (by rw [hD]; exact h) h2
    rw [hD] at this
    exact this)
  obtain ⟨pv, cv, rfl⟩ := lstO_len hv
  clear hv hD
  go_enter Try.func5, Try.ntmps5
  go_wp2_with fail
  refine (AW.out _).mono ?_
  rintro e w1 ⟨rfl, hb1⟩
  have B1 := hide (B0.out.step hb1)
  have D1 := hide (D0.out.trans (hb1.mono D0.out.size))
  clear hb1 B0 D0 AW
  go_wp2_with (refine wpList_load_box rfl (.tmp 2) rfl w.heap.size m (.slice pv l.length cv) rfl B1.out ?_)
  refine (EN.out _ (HV.out _ D1.out)).mono ?_
  rintro e w2 ⟨rfl, hb2⟩
  have B2 := hide (B1.out.step hb2)
  have D2 := hide (D1.out.trans (hb2.mono D1.out.size))
  clear hb2 B1 D1 EN
  · rw [c2, c3]
    rw [c1] at SO
    obtain ⟨x0, x1, x2, x3, x4, x5, x6, x7, x8, x9, x10, x11, x12, x13, x14⟩ := B2.out.cells
    clear c1 c2 c3 SY
    go_wp2_with fail
    refine (SO.out _ (HV.out _ D2.out)).mono ?_
    rintro e w3 ⟨rfl, hb3⟩
    have D3 := hide (D2.out.trans (hb3.mono D2.out.size))
    clear hb3 SO B2 D2 x0 x1 x2 x3 x4 x5 x6 x7 x8 x9 x10 x11 x12 x13 x14
    go_wp2_with fail
    refine (DS.out _).mono ?_
    rintro e w20 ⟨p9, c9, rfl, hb20, ho20⟩
    have D20 := hide (D3.out.trans (hb20.mono D3.out.size))
    have O20 := hide ho20
    have N20 := hide (box_new w20 zeroH (.slice none 0 0))
    have K20 := hide (below_alloc w20 (.cells (cellsM zeroH (.slice none 0 0)) 26))
    clear hb20 ho20 DS D3
    by_cases hn : ns = 0
    · subst hn
      have AG2 := AG.out rfl
      by_cases hsz : s.size ≤ 65251
      · have Q : ¬ (65251 : Int) < (s.size : Int) := by omega
        have AG3 := hide (AG2 hsz)
        have DE := hide (fun W => dec_q (dec_enc (AG2 hsz)) W)
        have E2 := hide (fun W (h : LstO (.slice p9 ls.length c9) ls W) => (show Calls Try.prog 12 #[MV hs (.slice p9 ls.length c9)] W (Gives (.tuple #[.string (bs (encS (hs, ls))), .int .i64 0]) W) by
          have t := encode_any hs (l := ls) (by omega) W h
          unfold EncP at t
          rw [AG2 hsz] at t
          exact t))
        have SY2 := hide (fun (va vb : Value) W (ha : LstO va ls W) (hb : LstO vb ls W) => same_yes hs (l := ls) (by omega) W ha hb)
        generalize bs (encS (hs, ls)) = tt at *
        clear AG AG2 hsz AG3 BAD
        go_wp2_with (first | (refine wpList_load_box rfl (.tmp 9) rfl w20.heap.size hs (.slice p9 ls.length c9) rfl G21.out ?_) | (refine wpList_store_box rfl (.tmp 9) (.tmp 56) rfl w20.heap.size _ hs _ (.slice p9 ls.length c9) rfl rfl rfl N20.out ?_; intro w21 g21 b21 z21; have G21 := hide g21; have K21 := hide (show Below w20.heap.size w20 w21 from K20.out.trans (b21 _ (Nat.le_refl _))); have O21 := hide (O20.out.step K21.out); have D21 := hide (D20.out.trans (K21.out.mono D20.out.size)); clear g21 b21 z21 N20 K20 O20 D20))
        refine (E2.out _ O21.out).mono ?_
        rintro e w22 ⟨rfl, hb22⟩
        have G22 := hide (G21.out.step hb22)
        have O22 := hide (O21.out.step hb22)
        have D22 := hide (D21.out.trans (hb22.mono D21.out.size))
        clear hb22 G21 O21 D21 K21 E2
        go_wp2_with fail
        refine (DE.out _).mono ?_
        rintro e w23 ⟨p8, c8, rfl, hb23, ho23⟩
        have N23 := hide (box_new w23 zeroH (.slice none 0 0))
        have K23 := hide (below_alloc w23 (.cells (cellsM zeroH (.slice none 0 0)) 26))
        have G23 := hide (G22.out.step hb23)
        have O23 := hide (O22.out.step hb23)
        have P23 := hide ho23
        have D23 := hide (D22.out.trans (hb23.mono D22.out.size))
        clear hb23 G22 O22 D22 DE ho23
        go_wp2_with (refine wpList_store_box rfl (.tmp 10) (.tmp 74) rfl w23.heap.size _ hs _ (.slice p8 ls.length c8) rfl rfl rfl N23.out ?_; intro w24 g24 b24 z24; have K24 := hide (show Below w23.heap.size w23 w24 from K23.out.trans (b24 _ (Nat.le_refl _))); have G24 := hide (G23.out.step K24.out); have O24 := hide (O23.out.step K24.out); have P24 := hide (P23.out.step K24.out); have D24 := hide (D23.out.trans (K24.out.mono D23.out.size)); obtain ⟨x0, x1, x2, x3, x4, x5, x6, x7, x8, x9, x10, x11, x12, x13, x14⟩ := g24.cells; obtain ⟨y0, y1, y2, y3, y4, y5, y6, y7, y8, y9, y10, y11, y12, y13, y14⟩ := G24.out.cells; clear g24 b24 z24 N23 K23 G23 O23 P23 D23 K24 G24)
        refine (SY2.out _ _ _ P24.out O24.out).mono ?_
        rintro e w25 ⟨rfl, hb25⟩
        have D25 := hide (D24.out.trans (hb25.mono D24.out.size))
        clear hb25 x0 x1 x2 x3 x4 x5 x6 x7 x8 x9 x10 x11 x12 x13 x14 y0 y1 y2 y3 y4 y5 y6 y7 y8 y9 y10 y11 y12 y13 y14
        go_wp2
        go_ret
        exact ⟨rfl, D25.out⟩
      · have Q : (65251 : Int) < (s.size : Int) := by omega
        clear AG AG2 hsz BAD
        go_wp2_with (refine wpList_store_box rfl (.tmp 9) (.tmp 56) rfl w20.heap.size _ hs _ (.slice p9 ls.length c9) rfl rfl rfl N20.out ?_; intro w21 g21 b21 z21; have K21 := hide (show Below w20.heap.size w20 w21 from K20.out.trans (b21 _ (Nat.le_refl _))); have D21 := hide (D20.out.trans (K21.out.mono D20.out.size)); clear g21 b21 z21 N20 K20 O20 D20)
        go_ret
        exact ⟨rfl, D21.out⟩
    · obtain ⟨rfl, rfl⟩ := BAD.out hn
      have Q : ¬ ((ns : Nat) : Int) = 0 := by omega
      have SY2 := hide (fun (va vb : Value) W (ha : LstO va [] W) (hb : LstO vb [] W) => same_yes zeroH (l := []) (by simp) W ha hb)
      clear AG BAD hn
      go_wp2_with (first | (refine wpList_load_box rfl (.tmp 9) rfl w20.heap.size zeroH (.slice p9 0 c9) rfl G21.out ?_) | (refine wpList_store_box rfl (.tmp 9) (.tmp 56) rfl w20.heap.size _ zeroH _ (.slice p9 0 c9) rfl rfl rfl N20.out ?_; intro w21 g21 b21 z21; have G21 := hide g21; have K21 := hide (show Below w20.heap.size w20 w21 from K20.out.trans (b21 _ (Nat.le_refl _))); have O21 := hide (O20.out.step K21.out); have D21 := hide (D20.out.trans (K21.out.mono D20.out.size)); clear g21 b21 z21 N20 K20 O20 D20))
      refine (SY2.out _ _ _ O21.out (lst_nil _)).mono ?_
      rintro e w25 ⟨rfl, hb25⟩
      have D25 := hide (D21.out.trans (hb25.mono D21.out.size))
      clear hb25
      go_wp2
      go_ret
      exact ⟨rfl, D25.out⟩
set_option maxRecDepth 100000 in
set_option maxHeartbeats 16000000 in
theorem back_3 (m : Hd) (s : ByteArray) {v : Value} {l : List Opt} (hl : l.length * 24 ≤ 140737488355328) (w : World) (hv : LstO v l w) (c2 : encE (m, l) = 0) :
    Calls Try.prog 5 #[MV m v, .string s] w (Gives (.bool true) w) := by
  have B0 := hide (box_new w m v)
  have D0 := hide (below_alloc w (.cells (cellsM m v) 26))
  have HV := hide (fun W (H : Below w.heap.size w W) => hv.step H)
  have AW := hide (fun W => awake_any W)
  have EN := hide (fun W (h : LstO v l W) => encode_any m hl W h)
  have SO := hide (fun W (h : LstO v l W) => msound_any m hl W h)
  have SY := hide (fun (va vb : Value) W (ha : LstO va l W) (hb : LstO vb l W) => same_yes m hl W ha hb)
  -- what the second half wants
  obtain ⟨ns, hs, ls, hD⟩ : ∃ ns hs ls, decR s = (ns, hs, ls) := ⟨_, _, _, rfl⟩
  have DS := hide (fun W => dec_q hD W)
  have LS : ls.length ≤ 128 := by have := dec_len s; rw [hD] at this; exact this
  have BAD := hide (show ns ≠ 0 → hs = zeroH ∧ ls = [] by
    intro h
    have := dec_bad (s := s) (by rw [hD]; exact h)
    rw [hD] at this
    exact Prod.mk.inj this)
  have AG := hide (show ns = 0 → s.size ≤ 65251 → encE (hs, ls) = 0 by
    intro h h2
    have := dec_again (s := s) (by rw [hD]; exact h) h2
    rw [hD] at this
    exact this)
  obtain ⟨pv, cv, rfl⟩ := lstO_len hv
  clear hv hD
  go_enter Try.func5, Try.ntmps5
  go_wp2_with fail
  refine (AW.out _).mono ?_
  rintro e w1 ⟨rfl, hb1⟩
  have B1 := hide (B0.out.step hb1)
  have D1 := hide (D0.out.trans (hb1.mono D0.out.size))
  clear hb1 B0 D0 AW
  go_wp2_with (refine wpList_load_box rfl (.tmp 2) rfl w.heap.size m (.slice pv l.length cv) rfl B1.out ?_)
  refine (EN.out _ (HV.out _ D1.out)).mono ?_
  rintro e w2 ⟨rfl, hb2⟩
  have B2 := hide (B1.out.step hb2)
  have D2 := hide (D1.out.trans (hb2.mono D1.out.size))
  clear hb2 B1 D1 EN
  · rw [c2]
    have DE := hide (fun W => dec_q (dec_enc c2) W)
    obtain ⟨z1, z2⟩ := enc_size c2
    have Q1 : ¬ (((bs (encS (m, l))).size : Nat) : Int) < 241 := by rw [bs_size]; omega
    have Q2 : ¬ (65507 : Int) < (((bs (encS (m, l))).size : Nat) : Int) := by rw [bs_size]; omega
    generalize bs (encS (m, l)) = tt at *
    clear c2 z1 z2 SO
    go_wp2_with fail
    refine (DE.out _).mono ?_
    rintro e w3 ⟨p3, c3, rfl, hb3, ho3⟩
    have N3 := hide (box_new w3 zeroH (.slice none 0 0))
    have K3 := hide (below_alloc w3 (.cells (cellsM zeroH (.slice none 0 0)) 26))
    have B3 := hide (B2.out.step hb3)
    have O3 := hide ho3
    have D3 := hide (D2.out.trans (hb3.mono D2.out.size))
    clear hb3 ho3 B2 D2 DE
    go_wp2_with (refine wpList_store_box rfl (.tmp 7) (.tmp 24) rfl w3.heap.size _ m _ (.slice p3 l.length c3) rfl rfl rfl N3.out ?_; intro w4 g4 b4 z4; have K4 := hide (show Below w3.heap.size w3 w4 from K3.out.trans (b4 _ (Nat.le_refl _))); have B4 := hide (B3.out.step K4.out); have O4 := hide (O3.out.step K4.out); have D4 := hide (D3.out.trans (K4.out.mono D3.out.size)); obtain ⟨x0, x1, x2, x3, x4, x5, x6, x7, x8, x9, x10, x11, x12, x13, x14⟩ := g4.cells; obtain ⟨y0, y1, y2, y3, y4, y5, y6, y7, y8, y9, y10, y11, y12, y13, y14⟩ := B4.out.cells; clear g4 b4 z4 N3 K3 B3 O3 D3 K4)
    refine (SY.out _ _ _ O4.out (HV.out _ D4.out)).mono ?_
    rintro e w5 ⟨rfl, hb5⟩
    have D5 := hide (D4.out.trans (hb5.mono D4.out.size))
    clear hb5 SY B4 O4 D4 x0 x1 x2 x3 x4 x5 x6 x7 x8 x9 x10 x11 x12 x13 x14 y0 y1 y2 y3 y4 y5 y6 y7 y8 y9 y10 y11 y12 y13 y14
    go_wp2_with fail
    refine (DS.out _).mono ?_
    rintro e w20 ⟨p9, c9, rfl, hb20, ho20⟩
    have D20 := hide (D5.out.trans (hb20.mono D5.out.size))
    have O20 := hide ho20
    have N20 := hide (box_new w20 zeroH (.slice none 0 0))
    have K20 := hide (below_alloc w20 (.cells (cellsM zeroH (.slice none 0 0)) 26))
    clear hb20 ho20 DS D5
    by_cases hn : ns = 0
    · subst hn
      have AG2 := AG.out rfl
      by_cases hsz : s.size ≤ 65251
      · have Q : ¬ (65251 : Int) < (s.size : Int) := by omega
        have AG3 := hide (AG2 hsz)
        have DE := hide (fun W => dec_q (dec_enc (AG2 hsz)) W)
        have E2 := hide (fun W (h : LstO (.slice p9 ls.length c9) ls W) => (show Calls Try.prog 12 #[MV hs (.slice p9 ls.length c9)] W (Gives (.tuple #[.string (bs (encS (hs, ls))), .int .i64 0]) W) by
          have t := encode_any hs (l := ls) (by omega) W h
          unfold EncP at t
          rw [AG2 hsz] at t
          exact t))
        have SY2 := hide (fun (va vb : Value) W (ha : LstO va ls W) (hb : LstO vb ls W) => same_yes hs (l := ls) (by omega) W ha hb)
        generalize bs (encS (hs, ls)) = tt at *
        clear AG AG2 hsz AG3 BAD
        go_wp2_with (first | (refine wpList_load_box rfl (.tmp 9) rfl w20.heap.size hs (.slice p9 ls.length c9) rfl G21.out ?_) | (refine wpList_store_box rfl (.tmp 9) (.tmp 56) rfl w20.heap.size _ hs _ (.slice p9 ls.length c9) rfl rfl rfl N20.out ?_; intro w21 g21 b21 z21; have G21 := hide g21; have K21 := hide (show Below w20.heap.size w20 w21 from K20.out.trans (b21 _ (Nat.le_refl _))); have O21 := hide (O20.out.step K21.out); have D21 := hide (D20.out.trans (K21.out.mono D20.out.size)); clear g21 b21 z21 N20 K20 O20 D20))
        refine (E2.out _ O21.out).mono ?_
        rintro e w22 ⟨rfl, hb22⟩
        have G22 := hide (G21.out.step hb22)
        have O22 := hide (O21.out.step hb22)
        have D22 := hide (D21.out.trans (hb22.mono D21.out.size))
        clear hb22 G21 O21 D21 K21 E2
        go_wp2_with fail
        refine (DE.out _).mono ?_
        rintro e w23 ⟨p8, c8, rfl, hb23, ho23⟩
        have N23 := hide (box_new w23 zeroH (.slice none 0 0))
        have K23 := hide (below_alloc w23 (.cells (cellsM zeroH (.slice none 0 0)) 26))
        have G23 := hide (G22.out.step hb23)
        have O23 := hide (O22.out.step hb23)
        have P23 := hide ho23
        have D23 := hide (D22.out.trans (hb23.mono D22.out.size))
        clear hb23 G22 O22 D22 DE ho23
        go_wp2_with (refine wpList_store_box rfl (.tmp 10) (.tmp 74) rfl w23.heap.size _ hs _ (.slice p8 ls.length c8) rfl rfl rfl N23.out ?_; intro w24 g24 b24 z24; have K24 := hide (show Below w23.heap.size w23 w24 from K23.out.trans (b24 _ (Nat.le_refl _))); have G24 := hide (G23.out.step K24.out); have O24 := hide (O23.out.step K24.out); have P24 := hide (P23.out.step K24.out); have D24 := hide (D23.out.trans (K24.out.mono D23.out.size)); obtain ⟨x0, x1, x2, x3, x4, x5, x6, x7, x8, x9, x10, x11, x12, x13, x14⟩ := g24.cells; obtain ⟨y0, y1, y2, y3, y4, y5, y6, y7, y8, y9, y10, y11, y12, y13, y14⟩ := G24.out.cells; clear g24 b24 z24 N23 K23 G23 O23 P23 D23 K24 G24)
        refine (SY2.out _ _ _ P24.out O24.out).mono ?_
        rintro e w25 ⟨rfl, hb25⟩
        have D25 := hide (D24.out.trans (hb25.mono D24.out.size))
        clear hb25 x0 x1 x2 x3 x4 x5 x6 x7 x8 x9 x10 x11 x12 x13 x14 y0 y1 y2 y3 y4 y5 y6 y7 y8 y9 y10 y11 y12 y13 y14
        go_wp2
        go_ret
        exact ⟨rfl, D25.out⟩
      · have Q : (65251 : Int) < (s.size : Int) := by omega
        clear AG AG2 hsz BAD
        go_wp2_with (refine wpList_store_box rfl (.tmp 9) (.tmp 56) rfl w20.heap.size _ hs _ (.slice p9 ls.length c9) rfl rfl rfl N20.out ?_; intro w21 g21 b21 z21; have K21 := hide (show Below w20.heap.size w20 w21 from K20.out.trans (b21 _ (Nat.le_refl _))); have D21 := hide (D20.out.trans (K21.out.mono D20.out.size)); clear g21 b21 z21 N20 K20 O20 D20)
        go_ret
        exact ⟨rfl, D21.out⟩
    · obtain ⟨rfl, rfl⟩ := BAD.out hn
      have Q : ¬ ((ns : Nat) : Int) = 0 := by omega
      have SY2 := hide (fun (va vb : Value) W (ha : LstO va [] W) (hb : LstO vb [] W) => same_yes zeroH (l := []) (by simp) W ha hb)
      clear AG BAD hn
      go_wp2_with (first | (refine wpList_load_box rfl (.tmp 9) rfl w20.heap.size zeroH (.slice p9 0 c9) rfl G21.out ?_) | (refine wpList_store_box rfl (.tmp 9) (.tmp 56) rfl w20.heap.size _ zeroH _ (.slice p9 0 c9) rfl rfl rfl N20.out ?_; intro w21 g21 b21 z21; have G21 := hide g21; have K21 := hide (show Below w20.heap.size w20 w21 from K20.out.trans (b21 _ (Nat.le_refl _))); have O21 := hide (O20.out.step K21.out); have D21 := hide (D20.out.trans (K21.out.mono D20.out.size)); clear g21 b21 z21 N20 K20 O20 D20))
      refine (SY2.out _ _ _ O21.out (lst_nil _)).mono ?_
      rintro e w25 ⟨rfl, hb25⟩
      have D25 := hide (D21.out.trans (hb25.mono D21.out.size))
      clear hb25
      go_wp2
      go_ret
      exact ⟨rfl, D25.out⟩
theorem back_any (m : Hd) (s : ByteArray) {v : Value} {l : List Opt} (hl : l.length * 24 ≤ 140737488355328) (w : World) (hv : LstO v l w) :
    Calls Try.prog 5 #[MV m v, .string s] w (Gives (.bool true) w) := by
  rcases enc_cases (m, l) with ⟨c1, c2, c3⟩ | ⟨c1, _, c2, c3⟩ | ⟨_, _, c2, _⟩
  · exact back_1 m s hl w hv c1 c2 c3
  · exact back_2 m s hl w hv c1 c2 c3
  · exact back_3 m s hl w hv c2
end Go.Proofs.Ytmoklodaeicpgaa
