/-
  The contracts of the document's own Of4 and Get. Conditions: the text has at most 65536 bytes; Get's takes the contract of the document's own Get6 as a premise (Six), which is proved apart.
-/
import Derived.Test.YtmapcllmiomelaaDoorTextG6
import Derived.Test.YtmapcllmiomelaaDoorTextZ
namespace Go.Proofs.YtmapcllmiomelaaDoor
open Go.RowKit Go.Joins

/-- the contract of the document's own Get6 -/
def Six : Prop := ∀ (s : ByteArray), s.size ≤ 65536 → ∀ W : World, Calls Tryd.prog 11 #[.string s] W (Gives (.tuple #[A (g6V s), .bool (g6O s)]) W)
set_option maxHeartbeats 400000 in
theorem rof4_any (n : Nat) (hn : n < 4294967296) (w : World) :
    Calls Tryd.prog 33 #[.int .u32 (n : Nat)] w (Gives (A n) w) := by
  have H := hide (hi_small (show n < 18446744073709551616 by omega))
  have K := hide (lo_small (show n < 18446744073709551616 by omega))
  go_enter Tryd.func33, Tryd.ntmps33
  go_wp2
  exact bodyPost_ret (v := A n) (by simp [results, Tryd.results33, go_sem, H.out, K.out]) rfl ⟨rfl, below_alloc w _⟩
set_option maxRecDepth 100000 in
set_option maxHeartbeats 1000000 in
theorem rget_any (G6 : Six) (fam : Int) (s : ByteArray) (hs : s.size ≤ 65536) (w : World) :
    Calls Tryd.prog 13 #[.int .i64 fam, .string s] w (Gives (.tuple #[A (gV fam s), .bool (gO fam s)]) w) := by
  by_cases h6 : fam = 6
  · have E6 : (fam == 6) = true := by rw [h6]; rfl
    have R1 := hide (show gV fam s = g6V s by unfold gV; rw [if_neg (by omega), if_pos h6])
    have R2 := hide (show gO fam s = g6O s by unfold gO; rw [if_neg (by omega), if_pos h6])
    have G := hide (G6 s hs)
    clear h6
    go_enter Tryd.func13, Tryd.ntmps13
    go_wp2_with fail
    refine (G.out _).mono ?_
    rintro e w1 ⟨rfl, hb1⟩
    have HB1 := chain (below_alloc w _) hb1
    have T1 := (two_zero w 28).step hb1
    clear hb1
    obtain ⟨c0, c1, c2, c3, c4⟩ := id T1
    go_wp2
    refine bodyPost_ret (v := .tuple #[A (gV fam s), .bool (gO fam s)]) ?_ rfl ⟨rfl, (HB1.setCell (by simp) _).setCell (by simp) _⟩
    rw [R1.out, R2.out]
    simp [results, Tryd.results13, go_sem, c0, c1]
  · have E6 : (fam == 6) = false := by simpa using h6
    have G := hide (fun W => rget4_any s hs W)
    by_cases h4 : fam = 4
    · have E4 : (fam != 4) = false := by rw [h4]; rfl
      have R1 := hide (show gV fam s = g4V s by unfold gV; rw [if_pos h4])
      have R2 := hide (show gO fam s = g4O s by unfold gO; rw [if_pos h4])
      have O := hide (fun W => rof4_any (g4V s) (g4V_lt s) W)
      have Z := hide (show g4O s = false → g4V s = 0 from fun h => by
        cases e : get4 s with
        | none => exact (get4_none e).1
        | some n => rw [(get4_some e).2] at h; cases h)
      clear h4 h6
      generalize g4V s = n at *
      generalize g4O s = o at *
      go_enter Tryd.func13, Tryd.ntmps13
      go_wp2_with fail
      refine (G.out _).mono ?_
      rintro e w1 ⟨rfl, hb1⟩
      have HB1 := chain (below_alloc w _) hb1
      have T1 := (two_zero w 28).step hb1
      clear hb1
      cases o with
      | false =>
        obtain ⟨c0, c1, c2, c3, c4⟩ := id T1
        go_wp2
        refine bodyPost_ret (v := .tuple #[A (gV fam s), .bool (gO fam s)]) ?_ rfl ⟨rfl, (HB1.setCell (by simp) _).setCell (by simp) _⟩
        rw [R1.out, R2.out, Z.out (by first | rfl | trivial)]
        simp [results, Tryd.results13, go_sem, hi_zero, lo_zero, c0, c1]
      | true =>
        go_wp2_with fail
        refine (O.out _).mono ?_
        rintro e w2 ⟨rfl, hb2⟩
        have HB2 := chain HB1 hb2
        have T2 := T1.step hb2
        clear T1 hb2 HB1
        obtain ⟨c0, c1, c2, c3, c4⟩ := id T2
        go_wp2
        refine bodyPost_ret (v := .tuple #[A (gV fam s), .bool (gO fam s)]) ?_ rfl ⟨rfl, (HB2.setCell (by simp) _).setCell (by simp) _⟩
        rw [R1.out, R2.out]
        simp [results, Tryd.results13, go_sem, c0, c1]
    · have E4 : (fam != 4) = true := by simpa using h4
      have R1 := hide (show gV fam s = 0 by unfold gV; rw [if_neg h4, if_neg h6])
      have R2 := hide (show gO fam s = false by unfold gO; rw [if_neg h4, if_neg h6])
      clear h4 h6
      go_enter Tryd.func13, Tryd.ntmps13
      go_wp2_with fail
      refine (G.out _).mono ?_
      rintro e w1 ⟨rfl, hb1⟩
      have HB1 := chain (below_alloc w _) hb1
      have T1 := (two_zero w 28).step hb1
      clear hb1
      obtain ⟨c0, c1, c2, c3, c4⟩ := id T1
      go_wp2
      refine bodyPost_ret (v := .tuple #[A (gV fam s), .bool (gO fam s)]) ?_ rfl ⟨rfl, (HB1.setCell (by simp) _).setCell (by simp) _⟩
      rw [R1.out, R2.out]
      simp [results, Tryd.results13, go_sem, hi_zero, lo_zero, c0, c1]
end Go.Proofs.YtmapcllmiomelaaDoor
