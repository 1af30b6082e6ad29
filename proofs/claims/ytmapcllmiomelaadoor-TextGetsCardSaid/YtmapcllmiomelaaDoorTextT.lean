/-
  Contract of Get: for every int as the family. Conditions: the library's variables hold what is laid; a text is shorter than 2^32 - 15 bytes.
-/
import Derived.Test.YtmapcllmiomelaaDoorTextQ
namespace Go.Proofs.YtmapcllmiomelaaDoor
open Go.RowKit Go.Joins

theorem fold4_lt : ∀ (l : List ByteArray) (acc n : Nat), fold4 acc l = some n → n < (acc + 1) * 256 ^ l.length
  | [], acc, n, h => by simp [fold4] at h; subst h; simp
  | p :: r, acc, n, h => by
    unfold fold4 at h
    split at h
    · rename_i m hm
      split at h
      · have h1 := fold4_lt r _ n h
        have h3 : (acc * 256 + m + 1) * 256 ^ r.length ≤ ((acc + 1) * 256) * 256 ^ r.length := Nat.mul_le_mul_right _ (by omega)
        rw [List.length_cons, Nat.pow_succ, Nat.mul_comm (256 ^ r.length) 256, ← Nat.mul_assoc]
        omega
      · cases h
    · cases h
theorem get4_lt {s : ByteArray} {n : Nat} (h : get4 s = some n) : n < 4294967296 := by
  unfold get4 at h
  split at h
  · rename_i hl
    have := fold4_lt _ _ _ h
    rw [hl] at this
    omega
  · cases h
theorem g4V_lt (s : ByteArray) : g4V s < 4294967296 := by
  unfold g4V
  split
  · rename_i n h; exact get4_lt h
  · omega
/-- the address that a text of a family is of -/
def getS (fam : Int) (s : ByteArray) : Option Nat := if fam = 4 then get4 s else if fam = 6 then get6 s else none
def gV (fam : Int) (s : ByteArray) : Nat := if fam = 4 then g4V s else if fam = 6 then g6V s else 0
def gO (fam : Int) (s : ByteArray) : Bool := if fam = 4 then g4O s else if fam = 6 then g6O s else false

set_option maxRecDepth 100000 in
set_option maxHeartbeats 1000000 in
theorem get_any (fam : Int) (s : ByteArray) (hs : Lim s.size) (w : World) (hv : VO w) :
    Calls Tryd.prog 12 #[.int .i64 fam, .string s] w (Gives (.tuple #[A (gV fam s), .bool (gO fam s)]) w) := by
  by_cases h4 : fam = 4
  · have E4 : (fam == 4) = true := by rw [h4]; rfl
    have R1 := hide (show gV fam s = g4V s by unfold gV; rw [if_pos h4])
    have R2 := hide (show gO fam s = g4O s by unfold gO; rw [if_pos h4])
    have G := hide (fun W hV => get4_any s hs W hV)
    have O := hide (fun W => of4_any (g4V s) (g4V_lt s) W)
    clear h4
    go_enter Tryd.func12, Tryd.ntmps12
    go_wp2_with fail
    refine (G.out _ (VO.step (below_alloc w _) hv)).mono ?_
    rintro e w1 ⟨rfl, hb1⟩
    have HB1 := chain (below_alloc w _) hb1
    have T1 := (two_zero w 28).step hb1
    go_wp2_with fail
    refine (O.out _).mono ?_
    rintro e w2 ⟨rfl, hb2⟩
    have HB2 := chain HB1 hb2
    have T2 := T1.step hb2
    clear T1 hb1 hb2 HB1
    obtain ⟨c0, c1, c2, c3, c4⟩ := id T2
    go_wp2
    refine bodyPost_ret (v := .tuple #[A (gV fam s), .bool (gO fam s)]) ?_ rfl ⟨rfl, (HB2.setCell (by simp) _).setCell (by simp) _⟩
    rw [R1.out, R2.out]
    simp [results, Tryd.results12, go_sem, c0, c1]
  · have E4 : (fam == 4) = false := by simpa using h4
    by_cases h6 : fam = 6
    · have E6 : (fam == 6) = true := by rw [h6]; rfl
      have R1 := hide (show gV fam s = g6V s by unfold gV; rw [if_neg h4, if_pos h6])
      have R2 := hide (show gO fam s = g6O s by unfold gO; rw [if_neg h4, if_pos h6])
      have G := hide (fun W hV => get6_any s hs W hV)
      clear h4 h6
      go_enter Tryd.func12, Tryd.ntmps12
      go_wp2_with fail
      refine (G.out _ (VO.step (below_alloc w _) hv)).mono ?_
      rintro e w1 ⟨rfl, hb1⟩
      have HB1 := chain (below_alloc w _) hb1
      have T1 := (two_zero w 28).step hb1
      clear hb1
      obtain ⟨c0, c1, c2, c3, c4⟩ := id T1
      go_wp2
      refine bodyPost_ret (v := .tuple #[A (gV fam s), .bool (gO fam s)]) ?_ rfl ⟨rfl, (HB1.setCell (by simp) _).setCell (by simp) _⟩
      rw [R1.out, R2.out]
      simp [results, Tryd.results12, go_sem, c0, c1]
    · have E6 : (fam == 6) = false := by simpa using h6
      have R1 := hide (show gV fam s = 0 by unfold gV; rw [if_neg h4, if_neg h6])
      have R2 := hide (show gO fam s = false by unfold gO; rw [if_neg h4, if_neg h6])
      clear h4 h6
      go_enter Tryd.func12, Tryd.ntmps12
      go_wp2
      refine bodyPost_ret (v := .tuple #[A (gV fam s), .bool (gO fam s)]) ?_ rfl ⟨rfl, below_alloc w _⟩
      rw [R1.out, R2.out]
      simp [results, Tryd.results12, go_sem, hi_zero, lo_zero]
end Go.Proofs.YtmapcllmiomelaaDoor
