/-
  Contracts of the document's own Up and Down: they return what the program's return. Condition: the words are words of 64 bits, an int is an int of 64 bits (every value of the types is such).
-/
import Derived.Test.YtfmhpnendcikoaaGreatSpanRs
import Derived.BigQuiet
import Derived.Deep.QuietTactic
namespace Go.Proofs.YtfmhpnendcikoaaGreat
open Go.RowKit

theorem bit_sum {a : Nat} (ha : Fits a) (k m v : Nat) (h : k + m < 128) (e : bitS a (k + m) = v) (w : World) :
    Calls Tryz.prog 55 #[A a, .int .i64 ((k : Nat) + (m : Nat))] w (Gives (.int .u64 (v : Nat)) w) := by
  have := bit_nat ha (k + m) v h e w
  rwa [Int.natCast_add] at this
theorem with_sum {a : Nat} (ha : Fits a) (k m : Nat) (h : k + m < 128) (w : World) :
    Calls Tryz.prog 57 #[A a, .int .i64 ((k : Nat) + (m : Nat))] w (Gives (A (withS a (k + m))) w) := by
  have := with_nat ha (k + m) h w
  rwa [Int.natCast_add] at this

set_option maxRecDepth 100000 in
set_option maxHeartbeats 1000000 in
theorem rup_any {a : Nat} (ha : Fits a) (n : Int) (hn : I63 n) (w : World) :
    Calls Tryz.prog 56 #[A a, .int .i64 n] w (Gives (A (upS a n.toNat)) w) := by
  by_cases h0 : n < 0
  · have H := hide (upS_none ha)
    have E : n.toNat = 0 := by omega
    rw [E]
    clear E
    go_enter Tryz.func56, Tryz.ntmps56
    go_wp2
    exact bodyPost_ret (v := A (upS a 0)) (by simp [results, Tryz.results56, go_sem, H.out]) rfl ⟨rfl, ((((Below.refl _ _).alloc (Nat.le_refl _) _).alloc (by simp) _))⟩
  obtain ⟨m, rfl⟩ := Int.eq_ofNat_of_zero_le (by omega : 0 ≤ n)
  unfold I63 at hn
  rw [Int.toNat_natCast]
  clear h0
  by_cases hm : m < 128
  · have hm2 : (m : Int) < 128 := by omega
    go_enter Tryz.func56, Tryz.ntmps56
    go_wp2_with fail
    go_loopw [6] (fun i wr => ∃ k x : Nat, k + m ≤ 128 ∧ i = .int .i64 k ∧ Hid (x = clipS (upS a m) k) ∧ H3 w a x wr) (fun i _ => 128 - (intOf i).toNat)
    case atStart => exact ⟨0, 0, by omega, rfl, hide ((clip_none (fits_upS a m)).symm), h3_new w a _⟩
    case round =>
      obtain ⟨k, x, hk, rfl, E, HH⟩ := hrel
      obtain ⟨⟨HB, a0, a1, a2, a3, a4⟩, ⟨c0, c1, c2, c3, c4⟩, d0, d1, d2, d3, d4⟩ := id HH
      have HX := hide (show Fits x by rw [E.out]; exact fits_clipS (fits_upS a m) _)
      have q0 : (k : Int) ≤ 128 := by omega
      have q1 : (k : Int) + (m : Int) ≤ 128 := by omega
      by_cases hlt : k + m < 128
      · have q2 : (k : Int) < 128 := by omega
        have q3 : (k : Int) + (m : Int) < 128 := by omega
        have b1 := bitS_lt a (k + m)
        have hx : bitS a (k + m) = 0 ∨ bitS a (k + m) = 1 := by omega
        clear b1
        rcases hx with hx | hx
        · have A1 := hide hx
          clear hx
          go_wp2_with fail
          refine (bit_sum ha k m 0 hlt A1.out _).mono ?_
          rintro e w2 ⟨rfl, hb2⟩
          go_wp2
          go_roundw
          case rel => exact ⟨k + 1, x, by omega, by go_num, hide (by rw [E.out]; exact (clip_skip (by omega) (by rw [bit_up hlt, A1.out]; omega)).symm), H3.step hb2 HH⟩
          case measure => simp [intOf]; omega
        · have A1 := hide hx
          clear hx
          go_wp2_with fail
          refine (bit_sum ha k m 1 hlt A1.out _).mono ?_
          rintro e w2 ⟨rfl, hb2⟩
          clear a0 a1 a2 a3 a4 c0 c1 c2 c3 c4 d0 d1 d2 d3 d4 HB
          have HF := H3.step hb2 HH
          obtain ⟨⟨HB, a0, a1, a2, a3, a4⟩, ⟨c0, c1, c2, c3, c4⟩, d0, d1, d2, d3, d4⟩ := id HF
          go_wp2_with fail
          refine (with_nat HX.out k (by omega) _).mono ?_
          rintro e w3 ⟨rfl, hb3⟩
          clear a0 a1 a2 a3 a4 c0 c1 c2 c3 c4 d0 d1 d2 d3 d4 HB
          have HG := H3.step hb3 HF
          obtain ⟨⟨HB, a0, a1, a2, a3, a4⟩, ⟨c0, c1, c2, c3, c4⟩, d0, d1, d2, d3, d4⟩ := id HG
          go_wp2
          go_roundw
          case rel => exact ⟨k + 1, _, by omega, by go_num, hide (by rw [E.out]; exact clip_set (by omega) ((bit_up hlt).2 A1.out)), HG.put _⟩
          case measure => simp [intOf]; omega
      · have q3 : ¬ (k : Int) + (m : Int) < 128 := by omega
        have hx := show x = upS a m by rw [E.out, show k = 128 - m by omega]; exact up_end (by omega)
        subst hx
        clear E
        by_cases q2 : (k : Int) < 128
        all_goals
          go_wp2
          refine bodyPost_ret (v := A (upS a m)) ?_ rfl ⟨rfl, (HB.setCell (by simp) _).setCell (by simp) _⟩
          simp [results, Tryz.results56, go_sem, c0, c1]
  · have hm2 : ¬ (m : Int) < 128 := by omega
    go_enter Tryz.func56, Tryz.ntmps56
    go_wp2_with fail
    go_loopw [6] (fun i wr => i = .int .i64 0 ∧ H3 w a 0 wr) (fun _ _ => 0)
    case atStart => exact ⟨rfl, h3_new w a _⟩
    case round =>
      obtain ⟨rfl, HH⟩ := hrel
      obtain ⟨⟨HB, a0, a1, a2, a3, a4⟩, ⟨c0, c1, c2, c3, c4⟩, d0, d1, d2, d3, d4⟩ := id HH
      have K := hide (show upS a m = 0 from upS_zero (by omega))
      go_wp2
      refine bodyPost_ret (v := A (upS a m)) ?_ rfl ⟨rfl, (HB.setCell (by simp) _).setCell (by simp) _⟩
      rw [K.out]
      simp [results, Tryz.results56, go_sem, c0, c1]

end Go.Proofs.YtfmhpnendcikoaaGreat
