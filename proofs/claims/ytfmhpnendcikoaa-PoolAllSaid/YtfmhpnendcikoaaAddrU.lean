/-
  Contract of Mod: the rest of one number of 128 bits by another, and whether there is one. Conditions: the words are words of 64 bits (every value of the type is such).
-/
import Derived.Test.YtfmhpnendcikoaaAddrS
namespace Go.Proofs.Ytfmhpnendcikoaa
open Go.RowKit

theorem rem_named {h l y m : Nat} (w : World) (h0 : 0 < y) (h2 : W64lt y) (h3 : W64lt l) (hm : (h * 18446744073709551616 + l) % y = m) :
    Calls Try.prog 48 #[.int .u64 h, .int .u64 l, .int .u64 y] w (Gives (.int .u64 (m : Nat)) w) := by
  subst hm
  exact (rem_any w h0 h2 h3).mono fun _ _ h => gets_below h

set_option maxHeartbeats 1000000 in
theorem mod_any {a b : Nat} (ha : Fits a) (hb : Fits b) (w : World) :
    Calls Try.prog 34 #[A a, A b] w (Gives (.tuple #[A (modS a b), .bool (modO b)]) w) := by
  by_cases h0 : b = 0
  · subst h0
    have E := hide (show modS a 0 = 0 from rfl)
    have F := hide (show modO 0 = false from rfl)
    have z1 := hi_zero
    have z2 := lo_zero
    go_enter Try.func34, Try.ntmps34
    go_wp2
    refine bodyPost_ret (v := .tuple #[A (modS a 0), .bool (modO 0)]) ?_ rfl ⟨rfl, (((Below.refl _ _).alloc (Nat.le_refl _) _).alloc (by simp) _).alloc (by simp; omega) _⟩
    rw [E.out, F.out]
    simp [results, Try.results34, go_sem, hi_zero, lo_zero]
  have F := hide (show modO b = true by unfold modO; simpa using h0)
  by_cases h1 : hi b = 0
  · have e := hi_lo b
    have h2 : 0 < lo b := by omega
    have E := show (hi a * 18446744073709551616 + lo a) % lo b = modS a b by
      unfold modS; rw [if_neg h0, hi_lo, show lo b = b by omega]
    have hm : modS a b < 18446744073709551616 := by rw [← E]; exact Nat.lt_trans (Nat.mod_lt _ h2) (lo_lt b)
    have E := hide E
    have M1 := hide (hi_small hm)
    have M2 := hide (lo_small hm)
    have hl : W64lt (lo a) := lo_lt a
    have hlb : W64lt (lo b) := lo_lt b
    have p1 : ¬ lo b = 0 := by omega
    have p2 : ((hi b : Int) == 0) = true := by rw [h1]; rfl
    have p3 : ((lo b : Int) == 0) = false := bne0 h2
    clear e hm
    go_enter Try.func34, Try.ntmps34
    go_wp2_with fail
    refine (rem_named (h := hi a) _ h2 hlb hl E.out).mono ?_
    rintro e w' ⟨rfl, hb2⟩
    obtain ⟨hc, hf⟩ := bcell hb2
    have hz0 : w.heap.size < w'.heap.size := by have := hb2.size; simp at this; omega
    have hz1 : w.heap.size + 1 < w'.heap.size := by have := hb2.size; simp at this; omega
    have hz : w.heap.size + 1 + 1 < w'.heap.size := by have := hb2.size; simp at this; omega
    go_wp2
    refine bodyPost_ret (v := .tuple #[A (modS a b), .bool (modO b)]) ?_ rfl ⟨rfl, ?_⟩
    · rw [F.out]
      simp [results, Try.results34, go_sem, hc, M1.out, M2.out]
    · exact ((((((Below.refl _ _).alloc (Nat.le_refl _) _).alloc (by simp) _).alloc (by simp; omega) _).trans (hb2.mono (by simp; omega))).setCell (by simp; omega) _).setCell (by simp; omega) _
  · have p2 : ((hi b : Int) == 0) = false := bne0 (by omega)
    go_enter Try.func34, Try.ntmps34
    go_wp2_with fail
    refine (long_any ha hb h1 _).mono ?_
    rintro e w' ⟨rfl, hb2⟩
    obtain ⟨hc, hf⟩ := bcell hb2
    have hz0 : w.heap.size < w'.heap.size := by have := hb2.size; simp at this; omega
    have hz1 : w.heap.size + 1 < w'.heap.size := by have := hb2.size; simp at this; omega
    have hz : w.heap.size + 1 + 1 < w'.heap.size := by have := hb2.size; simp at this; omega
    go_wp2
    refine bodyPost_ret (v := .tuple #[A (modS a b), .bool (modO b)]) ?_ rfl ⟨rfl, ?_⟩
    · rw [F.out]
      simp [results, Try.results34, go_sem, hc]
    · exact ((((((Below.refl _ _).alloc (Nat.le_refl _) _).alloc (by simp) _).alloc (by simp; omega) _).trans (hb2.mono (by simp; omega))).setCell (by simp; omega) _).setCell (by simp; omega) _
end Go.Proofs.Ytfmhpnendcikoaa
