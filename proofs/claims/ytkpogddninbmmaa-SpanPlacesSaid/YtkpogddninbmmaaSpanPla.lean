/-
  The law SpanPlaces returns true. Conditions: the words are words of 64 bits (every value of the types is such).
-/
import Derived.Test.YtkpogddninbmmaaSpanPlT
import Derived.Test.YtkpogddninbmmaaSpanPlF
import Derived.Test.YtkpogddninbmmaaSpanPlZ
import Derived.Test.YtkpogddninbmmaaSpanMm
namespace Go.Proofs.Ytkpogddninbmmaa
open Go.RowKit Go.Joins

theorem zero_fits : Fits 0 := by unfold Fits; decide
theorem zero_words : hi 0 = 0 ∧ lo 0 = 0 := by decide
set_option maxRecDepth 100000 in
set_option maxHeartbeats 1000000 in
theorem places_any {v : Value} {l : List Rg} {n a : Nat} (hf : FitL l) (fn : Fits n) (fa : Fits a) (w : World) (hv : Lst v l w) :
    Calls Try.prog 7 #[v, A n, A a] w (Gives (.bool true) w) := by
  obtain ⟨g1, g2, g3⟩ := builtL_good hf
  have BU := hide (fun W H => built_any (v := v) hf W H)
  generalize builtL l = s at *
  have hc := cnt_le g1 g2
  have cV : cntV s = cntL s % 340282366920938463463374607431768211456 := by unfold cntV; rw [if_pos (sound_snd.2 g1), tot_cnt g1 g2]
  have cO : cntO s = (decide (0 < s.length) && decide (cntL s % 340282366920938463463374607431768211456 = 0)) := by unfold cntO; rw [sound_snd.2 g1, tot_cnt g1 g2, Bool.true_and]
  have fb : Fits (bel a s) := by have := bel_le g1 a; unfold Fits at fa ⊢; omega
  have RA := hide (fun W vs (H : Lst vs s W) => via (rank_any (a := a) g2 fa (by omega) W H) (v' := A (bel a s)) (by rw [rank_bel g1 g2 fa]))
  have l1 : s.length ≤ 1000000 := by omega
  have l6 : s.length ≤ 600 := by omega
  by_cases hn : n < cntL s
  · obtain ⟨x, e1, e2, e3, e4⟩ := nth_at g1 g2 fn hn
    have NT := hide (fun W vs (H : Lst vs s W) => via (nth_any (n := n) g2 fn l1 W H) (v' := .tuple #[A x, .bool true]) (by rw [(nth_some (sound_snd.2 g1) e1).1, (nth_some (sound_snd.2 g1) e1).2]))
    have HX := hide (fun W vs (H : Lst vs s W) => via (has_any g2 l1 x W H) (v' := .bool true) (by rw [(hasB_iff g1 x).2 e2]))
    have RX := hide (fun W vs (H : Lst vs s W) => via (rank_any (a := x) g2 e4 l6 W H) (v' := A n) (by rw [rank_bel g1 g2 e4, e3]))
    by_cases hT : cntL s = 340282366920938463463374607431768211456
    · have hl : 0 < s.length := by
        cases s with
        | nil => simp [cntL] at hn
        | cons x r => simp
      have CN := hide (fun W vs (H : Lst vs s W) => via (count_any g2 l1 W H) (v' := .tuple #[A (cntV s), .bool true]) (by rw [cO, hT, decide_eq_true hl]; rfl))
      by_cases hm : memL s a
      · exact places_TTH w hv BU CN NT HX RX RA (hide fun W vs H => via (nth_any g2 fb l1 W H) (by rw [(nth_some (sound_snd.2 g1) (nth_mem g1 g2 fa hm)).1, (nth_some (sound_snd.2 g1) (nth_mem g1 g2 fa hm)).2])) (hide fun W vs H => via (has_any g2 l1 a W H) (by rw [(hasB_iff g1 a).2 hm]))
      · have hB : hasB s a = false := by rw [← Bool.not_eq_true, hasB_iff g1 a]; exact hm
        cases hN : nthF s (bel a s) with
        | none => exact places_TTN (yv := 0) w hv BU CN NT HX RX RA (hide fun W vs H => via (nth_any g2 fb l1 W H) (by rw [(nth_none hN).1, (nth_none hN).2])) (hide fun W vs H => via (has_any g2 l1 a W H) (by rw [hB]))
        | some y => exact places_TTY (yv := y) w hv BU CN NT HX RX RA (hide fun W vs H => via (nth_any g2 fb l1 W H) (by rw [(nth_some (sound_snd.2 g1) hN).1, (nth_some (sound_snd.2 g1) hN).2])) (hide fun W vs H => via (has_any g2 l1 a W H) (by rw [hB])) (hide fun W => via (cmp_any y a W) (by rw [cmpS_gt (nth_above g1 g2 fa hm hN)]))
    · have hlt : cntL s < 340282366920938463463374607431768211456 := by omega
      have CN := hide (fun W vs (H : Lst vs s W) => via (count_any g2 l1 W H) (v' := .tuple #[A (cntL s), .bool false]) (by rw [cO, cV, Nat.mod_eq_of_lt hlt, decide_eq_false (show ¬ cntL s = 0 by omega), Bool.and_false]))
      have CM := hide (fun W => via (cmp_any n (cntL s) W) (v' := .int .i64 (-1)) (by rw [cmpS_lt hn]))
      by_cases hm : memL s a
      · exact places_FTH w hv BU CN NT CM HX RX RA (hide fun W vs H => via (nth_any g2 fb l1 W H) (by rw [(nth_some (sound_snd.2 g1) (nth_mem g1 g2 fa hm)).1, (nth_some (sound_snd.2 g1) (nth_mem g1 g2 fa hm)).2])) (hide fun W vs H => via (has_any g2 l1 a W H) (by rw [(hasB_iff g1 a).2 hm]))
      · have hB : hasB s a = false := by rw [← Bool.not_eq_true, hasB_iff g1 a]; exact hm
        cases hN : nthF s (bel a s) with
        | none => exact places_FTN (yv := 0) w hv BU CN NT CM HX RX RA (hide fun W vs H => via (nth_any g2 fb l1 W H) (by rw [(nth_none hN).1, (nth_none hN).2])) (hide fun W vs H => via (has_any g2 l1 a W H) (by rw [hB]))
        | some y => exact places_FTY (yv := y) w hv BU CN NT CM HX RX RA (hide fun W vs H => via (nth_any g2 fb l1 W H) (by rw [(nth_some (sound_snd.2 g1) hN).1, (nth_some (sound_snd.2 g1) hN).2])) (hide fun W vs H => via (has_any g2 l1 a W H) (by rw [hB])) (hide fun W => via (cmp_any y a W) (by rw [cmpS_gt (nth_above g1 g2 fa hm hN)]))
  · have hlt : cntL s < 340282366920938463463374607431768211456 := by unfold Fits at fn; omega
    have hz := nth_off g1 g2 fn (by omega)
    have NT := hide (fun W vs (H : Lst vs s W) => via (nth_any (n := n) g2 fn l1 W H) (v' := .tuple #[A 0, .bool false]) (by rw [(nth_none hz).1, (nth_none hz).2]))
    have CN := hide (fun W vs (H : Lst vs s W) => via (count_any g2 l1 W H) (v' := .tuple #[A (cntL s), .bool false]) (by
      rw [cO, cV, Nat.mod_eq_of_lt hlt]
      cases s with
      | nil => rfl
      | cons x r =>
        have := cnt_pos g1 (by simp)
        rw [decide_eq_false (show ¬ cntL (x :: r) = 0 by omega), Bool.and_false]))
    have CM := hide (fun W => cmp_any n (cntL s) W)
    have DL : ¬ cmpS n (cntL s) < 0 := by have := cmp_lt n (cntL s); rw [decide_eq_false hn] at this; simpa using this
    by_cases hm : memL s a
    · exact places_FFH w hv BU CN NT (hide zero_words) DL CM RA (hide fun W vs H => via (nth_any g2 fb l1 W H) (by rw [(nth_some (sound_snd.2 g1) (nth_mem g1 g2 fa hm)).1, (nth_some (sound_snd.2 g1) (nth_mem g1 g2 fa hm)).2])) (hide fun W vs H => via (has_any g2 l1 a W H) (by rw [(hasB_iff g1 a).2 hm]))
    · have hB : hasB s a = false := by rw [← Bool.not_eq_true, hasB_iff g1 a]; exact hm
      cases hN : nthF s (bel a s) with
      | none => exact places_FFN (yv := 0) w hv BU CN NT (hide zero_words) DL CM RA (hide fun W vs H => via (nth_any g2 fb l1 W H) (by rw [(nth_none hN).1, (nth_none hN).2])) (hide fun W vs H => via (has_any g2 l1 a W H) (by rw [hB]))
      | some y => exact places_FFY (yv := y) w hv BU CN NT (hide zero_words) DL CM RA (hide fun W vs H => via (nth_any g2 fb l1 W H) (by rw [(nth_some (sound_snd.2 g1) hN).1, (nth_some (sound_snd.2 g1) hN).2])) (hide fun W vs H => via (has_any g2 l1 a W H) (by rw [hB])) (hide fun W => via (cmp_any y a W) (by rw [cmpS_gt (nth_above g1 g2 fa hm hN)]))
end Go.Proofs.Ytkpogddninbmmaa
