/-
  The walk of the law TextGets: it returns true. Conditions: the library's variables hold what is laid; an int is an int of 64 bits (every value of the type is such); the contract of the document's own Get6 is a premise (Six), which is proved apart.
-/
import Derived.Test.YtmapcllmiomelaaDoorTextG8
import Derived.Test.YtmapcllmiomelaaDoorTextG5
namespace Go.Proofs.YtmapcllmiomelaaDoor
open Go.RowKit Go.Joins

set_option maxRecDepth 100000 in
set_option maxHeartbeats 4000000 in
theorem gets_any (G6 : Six) (fam : Int) (s : ByteArray) (w : World) (hv : VO w) :
    Calls Tryd.prog 3 #[.int .i64 fam, .string s] w (Gives (.bool true) w) := by
  have AW := hide (fun W hV => awake2_any W hV)
  by_cases hl : (s.size : Int) > 65536
  · go_enter Tryd.func3, Tryd.ntmps3
    go_wp2_with fail
    refine (AW.out _ hv).mono ?_
    rintro e w1 ⟨rfl, hb1⟩
    go_wp2_with fail
    refine (AW.out _ (VO.step hb1 hv)).mono ?_
    rintro e w2 ⟨rfl, hb2⟩
    go_wp2
    go_ret
    exact ⟨rfl, chain hb1 hb2⟩
  · have hs : s.size ≤ 65536 := by omega
    have hsl : Lim s.size := by unfold Lim; omega
    have P1 := hide (get4_any s hsl)
    have R1 := hide (fun W => rget4_any s hs W)
    have P2 := hide (get6_any s hsl)
    have R2 := hide (G6 s hs)
    have P3 := hide (get_any fam s hsl)
    have R3 := hide (fun W => rget_any G6 fam s hs W)
    have P4 := hide (getprefix_any fam s hsl)
    have R4 := hide (fun W => rgetprefix_any G6 fam s hs W)
    have P5 := hide (unhex_any s hsl)
    have R5 := hide (fun W => runhex_any s hs W)
    have P6 := hide (getnum_any s hsl)
    have R6 := hide (fun W => rgetnum_any s W)
    obtain ⟨a, n, hpv⟩ : ∃ (a : Nat) (n : Int), gpV fam s = Pv a n := by
      unfold gpV
      split
      · exact ⟨_, _, rfl⟩
      · exact ⟨_, _, rfl⟩
    rw [hpv] at P4 R4
    clear hpv hs hsl G6
    generalize g4V s = n4 at *
    generalize g4O s = b4 at *
    generalize g6V s = n6 at *
    generalize g6O s = b6 at *
    generalize gV fam s = nf at *
    generalize gO fam s = bf at *
    generalize gpO fam s = bp at *
    generalize unV s.data.toList = hx at *
    generalize unO s.data.toList = bx at *
    generalize numV s.data.toList = nn at *
    generalize numO s.data.toList = bn at *
    have EB : ∀ b : Bool, (b != b) = false := fun b => by cases b <;> rfl
    go_enter Tryd.func3, Tryd.ntmps3
    go_wp2_with fail
    refine (AW.out _ hv).mono ?_
    rintro e w1 ⟨rfl, hb1⟩
    clear AW
    go_wp2_with fail
    refine (P1.out _ (VO.step hb1 hv)).mono ?_
    rintro e w2 ⟨rfl, hb2⟩
    have HB2 := chain hb1 hb2
    clear hb1 hb2
    go_wp2_with fail
    refine (R1.out _).mono ?_
    rintro e w3 ⟨rfl, hb3⟩
    have HB3 := chain HB2 hb3
    clear HB2 hb3 P1 R1
    go_wp2_with fail
    refine (P2.out _ (VO.step HB3 hv)).mono ?_
    rintro e w4 ⟨rfl, hb4⟩
    have HB4 := chain HB3 hb4
    clear HB3 hb4
    have HB5 := chain HB4 (below_alloc w4 (.cells #[.int .u64 (hi n6 : Nat), .int .u64 (lo n6 : Nat)] 28))
    have T5 := two_new w4 n6 28
    go_wp2_with fail
    refine (R2.out _).mono ?_
    rintro e w6 ⟨rfl, hb6⟩
    have HB6 := chain HB5 hb6
    have T6 := T5.step hb6
    have HB7 := chain HB6 (below_alloc w6 (.cells #[.int .u64 (hi n6 : Nat), .int .u64 (lo n6 : Nat)] 28))
    have T7 := T6.step (below_alloc w6 (.cells #[.int .u64 (hi n6 : Nat), .int .u64 (lo n6 : Nat)] 28))
    have Q7 := two_new w6 n6 28
    have gle : w.heap.size ≤ w4.heap.size := HB4.size
    have gne : w4.heap.size < w6.heap.size := by have := hb6.size; rw [World.size_alloc] at this; omega
    clear HB4 HB5 T5 hb6 HB6 T6 P2 R2
    obtain ⟨t0, t1, _⟩ := id T7
    obtain ⟨q0, q1, _⟩ := id Q7
    go_wp2_with fail
    clear t0 t1 q0 q1
    generalize w4.heap.size = g at *
    generalize w6.alloc (.cells #[.int .u64 (hi n6 : Nat), .int .u64 (lo n6 : Nat)] 28) = w7 at *
    generalize w6.heap.size = g2 at *
    refine (P3.out _ (VO.step HB7 hv)).mono ?_
    rintro e w8 ⟨rfl, hb8⟩
    have HB8 := chain HB7 hb8
    have T8 := (T7.step hb8).put nf
    have Q8 := ((Q7.step hb8).set (p := ⟨g, 0, none⟩) (by dsimp only; omega) (.int .u64 (hi nf : Nat))).set (p := ⟨g, 1, none⟩) (by dsimp only; omega) (.int .u64 (lo nf : Nat))
    have HB9 : Below w.heap.size w ((w8.setCell ⟨g, 0, none⟩ (.int .u64 (hi nf : Nat))).setCell ⟨g, 1, none⟩ (.int .u64 (lo nf : Nat))) := (HB8.setCell (by dsimp only; omega) _).setCell (by dsimp only; omega) _
    obtain ⟨u0, u1, u2, u3, u4⟩ := T7.step hb8
    clear hb8 T7 Q7 HB7 HB8 P3
    go_wp2_with fail
    clear u0 u1 u2 u3 u4
    generalize (w8.setCell ⟨g, 0, none⟩ (.int .u64 (hi nf : Nat))).setCell ⟨g, 1, none⟩ (.int .u64 (lo nf : Nat)) = w9 at *
    refine (R3.out _).mono ?_
    rintro e w10 ⟨rfl, hb10⟩
    have HB10 := chain HB9 hb10
    have T10 := ((T8.step hb10).set (p := ⟨g2, 0, none⟩) (by dsimp only; omega) (.int .u64 (hi nf : Nat))).set (p := ⟨g2, 1, none⟩) (by dsimp only; omega) (.int .u64 (lo nf : Nat))
    have Q10 := (Q8.step hb10).put nf
    have HB11 : Below w.heap.size w ((w10.setCell ⟨g2, 0, none⟩ (.int .u64 (hi nf : Nat))).setCell ⟨g2, 1, none⟩ (.int .u64 (lo nf : Nat))) := (HB10.setCell (by dsimp only; omega) _).setCell (by dsimp only; omega) _
    obtain ⟨u0, u1, u2, u3, u4⟩ := Q8.step hb10
    obtain ⟨t0, t1, _⟩ := id T10
    obtain ⟨q0, q1, _⟩ := id Q10
    clear hb10 T8 Q8 HB9 HB10 R3 T10 Q10
    go_wp2_with fail
    clear u0 u1 u2 u3 u4 t0 t1 q0 q1
    generalize (w10.setCell ⟨g2, 0, none⟩ (.int .u64 (hi nf : Nat))).setCell ⟨g2, 1, none⟩ (.int .u64 (lo nf : Nat)) = w11 at *
    refine (P4.out _ (VO.step HB11 hv)).mono ?_
    rintro e w12 ⟨rfl, hb12⟩
    have HB12 := chain HB11 hb12
    have HB13 := chain HB12 (below_alloc w12 (.cells #[.int .u64 (hi a : Nat), .int .u64 (lo a : Nat), .int .i64 n] 33))
    have X13 := three_new w12 a n 33
    clear hb12 HB11 HB12 P4
    go_wp2_with fail
    refine (R4.out _).mono ?_
    rintro e w14 ⟨rfl, hb14⟩
    have HB14 := chain HB13 hb14
    have X14 := X13.step hb14
    have HB15 := chain HB14 (below_alloc w14 (.cells #[.int .u64 (hi a : Nat), .int .u64 (lo a : Nat), .int .i64 n] 33))
    have X15 := X14.step (below_alloc w14 (.cells #[.int .u64 (hi a : Nat), .int .u64 (lo a : Nat), .int .i64 n] 33))
    have Y15 := three_new w14 a n 33
    obtain ⟨_, ⟨t0, t1, t2⟩, _⟩ := id X15
    obtain ⟨_, ⟨q0, q1, q2⟩, _⟩ := id Y15
    clear hb14 HB13 HB14 X13 X14 X15 Y15 R4
    go_wp2_with fail
    clear t0 t1 t2 q0 q1 q2
    refine (P5.out _).mono ?_
    rintro e w16 ⟨rfl, hb16⟩
    have HB16 := chain HB15 hb16
    clear hb16 HB15 P5
    go_wp2_with fail
    refine (R5.out _).mono ?_
    rintro e w17 ⟨rfl, hb17⟩
    have HB17 := chain HB16 hb17
    clear hb17 HB16 R5
    go_wp2_with fail
    refine (P6.out _ (VO.step HB17 hv)).mono ?_
    rintro e w18 ⟨rfl, hb18⟩
    have HB18 := chain HB17 hb18
    clear hb18 HB17 P6
    go_wp2_with fail
    refine (R6.out _).mono ?_
    rintro e w19 ⟨rfl, hb19⟩
    have HB19 := chain HB18 hb19
    clear hb19 HB18 R6
    go_wp2
    go_ret
    exact ⟨rfl, HB19⟩
end Go.Proofs.YtmapcllmiomelaaDoor
