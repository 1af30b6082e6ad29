/-
  The document's own Decode, whole, and the law Wire4Decodes. No condition.
-/
import Derived.Test.YtmoklodaeicpgaaWDc1
import Derived.Test.YtmoklodaeicpgaaWDc2
namespace Go.Proofs.Ytmoklodaeicpgaa
open Go.RowKit Go.Joins

set_option maxRecDepth 100000 in
set_option maxHeartbeats 4000000 in
theorem rdecode_any (s : ByteArray) (w : World) : Calls Try.prog 17 #[.string s] w (DecP s w) := by
  have R0 := hide (box_new w zeroH (.slice none 0 0))
  have D0 := hide (below_alloc w (.cells (cellsM zeroH (.slice none 0 0)) 26))
  by_cases h1 : 65507 < s.size
  · have DR := hide (show decR s = (6, zeroH, []) by unfold decR; rw [if_pos h1])
    have Q : (65507 : Int) < (s.size : Int) := by omega
    clear h1
    go_enter Try.func17, Try.ntmps17
    go_wp2_with (refine wpList_store_box rfl (.tmp 2) (.tmp 13) rfl w.heap.size _ zeroH _ (.slice none 0 0) rfl rfl rfl R0.out ?_; intro w4 G4 B4 _)
    exact bodyPost_ret (v := .tuple #[MV zeroH (.slice none 0 0), .int .i64 6]) (results_box2 rfl _ _ w.heap.size _ _ rfl rfl G4) rfl (dec_zero DR.out (D0.out.trans (B4 _ (Nat.le_refl _))))
  by_cases h2 : s.size < 240
  · have Q1 : ¬ (65507 : Int) < (s.size : Int) := by omega
    have DR := hide (show decR s = (3, zeroH, []) by unfold decR; rw [if_neg h1, if_pos h2])
    have Q : (s.size : Int) < 240 := by omega
    clear h1 h2
    go_enter Try.func17, Try.ntmps17
    go_wp2_with (refine wpList_store_box rfl (.tmp 2) (.tmp 17) rfl w.heap.size _ zeroH _ (.slice none 0 0) rfl rfl rfl R0.out ?_; intro w4 G4 B4 _)
    exact bodyPost_ret (v := .tuple #[MV zeroH (.slice none 0 0), .int .i64 3]) (results_box2 rfl _ _ w.heap.size _ _ rfl rfl G4) rfl (dec_zero DR.out (D0.out.trans (B4 _ (Nat.le_refl _))))
  by_cases h3 : sub s 236 4 = bs cookieL
  · by_cases hp : parseE [(lb s).drop 240] = 0
    · cases hn : ovN (parseO [(lb s).drop 240]) with
      | none => exact rdec_bad s (by omega) (by omega) h3 hp hn w
      | some n =>
        rcases ov_cases (parseO [(lb s).drop 240]) with ⟨e, c⟩ | ⟨c, ⟨d, e⟩ | ⟨_, d, e⟩ | ⟨_, _, d, e⟩ | ⟨_, _, _, e⟩⟩
        · exact rdec_0 s (by omega) (by omega) h3 hp e c w
        · exact rdec_1 s (by omega) (by omega) h3 hp e c d w
        · exact rdec_2 s (by omega) (by omega) h3 hp e c d w
        · exact rdec_3 s (by omega) (by omega) h3 hp e c d w
        · rw [e] at hn; cases hn
    · exact rdec_err s (by omega) (by omega) h3 hp w
  · have Q1 : ¬ (65507 : Int) < (s.size : Int) := by omega
    have Q2 : ¬ (s.size : Int) < 240 := by omega
    have CK : ((s.extract 236 240).toList == [99, 130, 83, 99]) = false := str_ne (d := s.extract 236 240) (l := [99, 130, 83, 99]) h3
    have DR := hide (show decR s = (140, zeroH, []) by unfold decR; rw [if_neg h1, if_neg h2, if_pos h3])
    clear h1 h2 h3
    go_enter Try.func17, Try.ntmps17
    go_wp2_with (refine wpList_store_box rfl (.tmp 2) (.tmp 21) rfl w.heap.size _ zeroH _ (.slice none 0 0) rfl rfl rfl R0.out ?_; intro w4 G4 B4 _)
    exact bodyPost_ret (v := .tuple #[MV zeroH (.slice none 0 0), .int .i64 140]) (results_box2 rfl _ _ w.heap.size _ _ rfl rfl G4) rfl (dec_zero DR.out (D0.out.trans (B4 _ (Nat.le_refl _))))
theorem rdec_q {s : ByteArray} {n : Nat} {h : Hd} {l : List Opt} (hd : decR s = (n, h, l)) (w : World) : Calls Try.prog 17 #[.string s] w (DecQ n h l w) := by
  refine (rdecode_any s w).mono ?_
  rintro e w2 ⟨v, rfl, hb, ho, _⟩
  rw [hd] at ho ⊢
  obtain ⟨p, c, rfl, _⟩ := lenO ho
  exact ⟨p, c, rfl, hb, ownO_lst ho⟩
set_option maxRecDepth 100000 in
set_option maxHeartbeats 4000000 in
theorem decodes_any (s : ByteArray) (w : World) : Calls Try.prog 4 #[.string s] w (Gives (.bool true) w) := by
  obtain ⟨n, h, l, hD⟩ : ∃ n h l, decR s = (n, h, l) := ⟨_, _, _, rfl⟩
  have AW := hide (fun W => awake_any W)
  have DS := hide (fun W => dec_q hD W)
  have RS := hide (fun W => rdec_q hD W)
  have LS : l.length ≤ 128 := by have := dec_len s; rw [hD] at this; exact this
  have SY := hide (fun (va vb : Value) W (ha : LstO va l W) (hb : LstO vb l W) => same_yes h (l := l) (by omega) W ha hb)
  clear hD
  go_enter Try.func4, Try.ntmps4
  go_wp2_with fail
  refine (AW.out _).mono ?_
  rintro e w1 ⟨rfl, hb1⟩
  have D1 := hide hb1
  clear hb1 AW
  go_wp2_with fail
  refine (DS.out _).mono ?_
  rintro e w2 ⟨p2, c2, rfl, hb2, ho2⟩
  have N2 := hide (box_new w2 zeroH (.slice none 0 0))
  have K2 := hide (below_alloc w2 (.cells (cellsM zeroH (.slice none 0 0)) 26))
  have O2 := hide ho2
  have D2 := hide (D1.out.trans (hb2.mono D1.out.size))
  clear hb2 ho2 D1 DS
  go_wp2_with (refine wpList_store_box rfl (.tmp 3) (.tmp 12) rfl w2.heap.size _ h _ (.slice p2 l.length c2) rfl rfl rfl N2.out ?_; intro w3 g3 b3 z3; have K3 := hide (show Below w2.heap.size w2 w3 from K2.out.trans (b3 _ (Nat.le_refl _))); have G3 := hide g3; have O3 := hide (O2.out.step K3.out); have D3 := hide (D2.out.trans (K3.out.mono D2.out.size)); clear g3 b3 z3 N2 K2 O2 D2 K3)
  refine (RS.out _).mono ?_
  rintro e w4 ⟨p4, c4, rfl, hb4, ho4⟩
  have N4 := hide (box_new w4 zeroH (.slice none 0 0))
  have K4 := hide (below_alloc w4 (.cells (cellsM zeroH (.slice none 0 0)) 26))
  have G4 := hide (G3.out.step hb4)
  have O4 := hide (O3.out.step hb4)
  have P4 := hide ho4
  have D4 := hide (D3.out.trans (hb4.mono D3.out.size))
  clear hb4 ho4 G3 O3 D3 RS
  go_wp2_with (first | (refine wpList_load_box rfl (.tmp 3) rfl w2.heap.size h (.slice p2 l.length c2) rfl G5.out ?_) | (refine wpList_load_box rfl (.tmp 5) rfl w4.heap.size h (.slice p4 l.length c4) rfl H5.out ?_) | (refine wpList_store_box rfl (.tmp 5) (.tmp 17) rfl w4.heap.size _ h _ (.slice p4 l.length c4) rfl rfl rfl N4.out ?_; intro w5 g5 b5 z5; have K5 := hide (show Below w4.heap.size w4 w5 from K4.out.trans (b5 _ (Nat.le_refl _))); have H5 := hide g5; have G5 := hide (G4.out.step K5.out); have O5 := hide (O4.out.step K5.out); have P5 := hide (P4.out.step K5.out); have D5 := hide (D4.out.trans (K5.out.mono D4.out.size)); clear g5 b5 z5 N4 K4 G4 O4 P4 D4 K5))
  refine (SY.out _ _ _ O5.out P5.out).mono ?_
  rintro e w6 ⟨rfl, hb6⟩
  have D6 := hide (D5.out.trans (hb6.mono D5.out.size))
  clear hb6 D5 O5 P5 G5 H5 SY
  go_wp2
  go_ret
  exact ⟨rfl, D6.out⟩
end Go.Proofs.Ytmoklodaeicpgaa
