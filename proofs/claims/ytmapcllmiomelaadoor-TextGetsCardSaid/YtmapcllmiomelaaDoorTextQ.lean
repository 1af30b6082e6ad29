/-
  Contracts of outside, Put and Get: for every int as the family. Conditions: the library's variables hold what is laid; the words are words of 64 bits; a text that is read is shorter than 2^32 - 15 bytes.
-/
import Derived.Test.YtmapcllmiomelaaDoorTextO
import Derived.Test.YtmapcllmiomelaaDoorTextI
import Derived.Test.YtmapcllmiomelaaDoorTextP
import Derived.Test.YtmapcllmiomelaaDoorTextG
namespace Go.Proofs.YtmapcllmiomelaaDoor
open Go.RowKit Go.Joins

def outS (fam : Int) : Int := if fam = 4 then 96 else 0
theorem outside_any (fam : Int) (w : World) : Calls Tryd.prog 34 #[.int .i64 fam] w (Gives (.int .i64 (outS fam)) w) := by
  by_cases h : fam = 4
  · have E : (fam == 4) = true := by rw [h]; rfl
    have R := hide (show outS fam = 96 by unfold outS; rw [if_pos h])
    clear h
    go_enter Tryd.func34, Tryd.ntmps34
    go_wp2
    go_ret
    exact ⟨by rw [R.out]; rfl, Below.refl _ _⟩
  · have E : (fam == 4) = false := by simpa using h
    have R := hide (show outS fam = 0 by unfold outS; rw [if_neg h])
    clear h
    go_enter Tryd.func34, Tryd.ntmps34
    go_wp2
    go_ret
    exact ⟨by rw [R.out]; rfl, Below.refl _ _⟩
/-- the text of an address in a family -/
def putL (fam : Int) (a : Nat) : List UInt8 := if fam = 4 then (if a < 4294967296 then put4 a else []) else if fam = 6 then put6L a else []

set_option maxRecDepth 100000 in
set_option maxHeartbeats 1000000 in
theorem put_any (fam : Int) {a : Nat} (ha : Fits a) (w : World) (hv : VO w) :
    Calls Tryd.prog 42 #[.int .i64 fam, A a] w (Gives (St (putL fam a)) w) := by
  by_cases h4 : fam = 4
  · have E4 : (fam == 4) = true := by rw [h4]; rfl
    have TA := hide (fun W => to4_any a W)
    by_cases hl : a < 4294967296
    · have R := hide (show putL fam a = put4 a by unfold putL; rw [if_pos h4, if_pos hl])
      have P := hide (fun W hV => put4_any a hl W hV)
      rw [show to4S a = a by unfold to4S; rw [if_pos hl], show to4O a = true by unfold to4O; simpa using hl] at TA
      clear hl h4
      go_enter Tryd.func42, Tryd.ntmps42
      go_wp2_with fail
      refine (TA.out _).mono ?_
      rintro e w1 ⟨rfl, hb1⟩
      have HB1 := chain (below_alloc w _) hb1
      go_wp2_with fail
      refine (P.out _ (VO.step HB1 hv)).mono ?_
      rintro e w2 ⟨rfl, hb2⟩
      go_wp2
      go_ret
      exact ⟨by rw [R.out]; rfl, chain HB1 hb2⟩
    · have R := hide (show putL fam a = [] by unfold putL; rw [if_pos h4, if_neg hl])
      rw [show to4O a = false by unfold to4O; simpa using hl] at TA
      clear hl h4
      go_enter Tryd.func42, Tryd.ntmps42
      go_wp2_with fail
      refine (TA.out _).mono ?_
      rintro e w1 ⟨rfl, hb1⟩
      have HB1 := chain (below_alloc w _) hb1
      go_wp2
      go_ret
      exact ⟨by rw [R.out]; rfl, HB1⟩
  · have E4 : (fam == 4) = false := by simpa using h4
    by_cases h6 : fam = 6
    · have E6 : (fam == 6) = true := by rw [h6]; rfl
      have R := hide (show putL fam a = put6L a by unfold putL; rw [if_neg h4, if_pos h6])
      have P := hide (fun W hV => put6_any ha W hV)
      clear h4 h6
      go_enter Tryd.func42, Tryd.ntmps42
      go_wp2_with fail
      refine (P.out _ (VO.step (below_alloc w _) hv)).mono ?_
      rintro e w1 ⟨rfl, hb1⟩
      go_wp2
      go_ret
      exact ⟨by rw [R.out]; rfl, chain (below_alloc w _) hb1⟩
    · have E6 : (fam == 6) = false := by simpa using h6
      have R := hide (show putL fam a = [] by unfold putL; rw [if_neg h4, if_neg h6])
      clear h4 h6
      go_enter Tryd.func42, Tryd.ntmps42
      go_wp2
      go_ret
      exact ⟨by rw [R.out]; rfl, below_alloc w _⟩
end Go.Proofs.YtmapcllmiomelaaDoor
