/-
  The walk of OctetRises: it returns true. Condition: the words of both addresses are words of 64 bits.
-/
import Derived.Test.YtnbdldnbfhdhdaaOctK
namespace Go.Proofs.Ytnbdldnbfhdhdaa
open Go.RowKit Go.Joins

/-- the blocks of two addresses -/
def HR (w : World) (a b : Nat) (W : World) : Prop := Below w.heap.size w W ∧
  (W.cell? ⟨w.heap.size, 0, none⟩ = some (.int .u64 (hi a : Nat)) ∧ W.cell? ⟨w.heap.size, 1, none⟩ = some (.int .u64 (lo a : Nat))) ∧
  (W.cell? ⟨w.heap.size + 1, 0, none⟩ = some (.int .u64 (hi b : Nat)) ∧ W.cell? ⟨w.heap.size + 1, 1, none⟩ = some (.int .u64 (lo b : Nat)))
theorem HR.step {w : World} {a b : Nat} {W w2 : World} (h : HR w a b W) (hb : Below W.heap.size W w2) : HR w a b w2 :=
  ⟨h.1.trans (hb.mono h.1.size), ⟨keep_cell hb h.2.1.1, keep_cell hb h.2.1.2⟩, keep_cell hb h.2.2.1, keep_cell hb h.2.2.2⟩
theorem HR.drew {w : World} {a b : Nat} {W : World} (h : HR w a b W) : HR w a b { W with drawn := W.drawn + 1 } := h.step (Below.refl _ _).drew
theorem hr_new (w : World) (a b : Nat) (t : TypeId) : HR w a b ((w.alloc (.cells #[.int .u64 (hi a : Nat), .int .u64 (lo a : Nat)] t)).alloc (.cells #[.int .u64 (hi b : Nat), .int .u64 (lo b : Nat)] t)) := by
  refine ⟨(below_alloc w _).alloc (by simp) _, ⟨?_, ?_⟩, ?_, ?_⟩ <;> simp [go_sem]
theorem less_lists : ∀ x y : List UInt8, Op.bytesLess x y = decide (x < y)
  | [], [] => rfl
  | _ :: _, [] => rfl
  | [], _ :: _ => rfl
  | c :: x, d :: y => by
    have ih := less_lists x y
    rw [Op.bytesLess, ih]
    by_cases h1 : c < d
    · simp [h1, List.cons_lt_cons_iff]
    · by_cases h2 : c = d
      · subst h2; simp
      · simp [h1, h2, List.cons_lt_cons_iff]
theorem less_of {k x y : Nat} {B : Bool} (hx : x < 256 ^ k) (hy : y < 256 ^ k) (h : decide (x < y) = B) : Op.bytesLess (beL k x) (beL k y) = B := by
  rw [less_lists, ← h]
  exact decide_eq_decide.2 (beL_lt k x y hx hy)

set_option maxRecDepth 100000 in
set_option maxHeartbeats 2000000 in
theorem rises_a1 {a b : Nat} (ha : Fits a) (hb : Fits b) (h : hi a < hi b) (l : lo a < lo b) (w : World) : Calls Try.prog 6 #[A a, A b] w (Gives (.bool true) w) := by
  have ea := hi_lo a
  have eb := hi_lo b
  have la := lo_lt a
  have lb := lo_lt b
  have X1 := less_of (k := 16) (B := true) ha hb (by first | exact decide_eq_true (by omega) | exact decide_eq_false (by omega))
  have X2 := less_of (k := 8) (B := true) la lb (by first | exact decide_eq_true (by omega) | exact decide_eq_false (by omega))
  have C1 : (hi a : Int) < (hi b : Int) := by omega
  have C1n : hi a < hi b := h
  have C3 : (lo a : Int) < (lo b : Int) := by omega
  have C3n : lo a < lo b := l
  have PA := hide (fun W => putAddr_any ha W)
  have PB := hide (fun W => putAddr_any hb W)
  have QA := hide (fun W => put64_any (lo a) la W)
  have QB := hide (fun W => put64_any (lo b) lb W)
  have LN := beL_length 16 a
  generalize beL 16 a = l1 at *
  generalize beL 16 b = l2 at *
  generalize beL 8 (lo a) = l3 at *
  generalize beL 8 (lo b) = l4 at *
  have H0 := hr_new w a b 24
  clear ea eb la lb h l
  go_enter Try.func6, Try.ntmps6
  go_wp2_with fail
  refine (awake_any _).mono ?_
  rintro e w1 ⟨rfl, hb1⟩
  have H1 := H0.step hb1
  clear H0 hb1
  obtain ⟨z0, ⟨c0, c1⟩, c2, c3⟩ := id H1
  clear z0
  go_wp2_with fail
  clear c0 c1 c2 c3
  have H2 := HR.drew H1
  refine wp_region_quiet (C := HR w a b) (by kernel_rfl) (by kernel_rfl) H2 (wpQuiet_step (fun K0 hK0 => ?_))
  go_simp
  refine ⟨A a, fun W hW => ?_, hK0 _ (wpQuiet_step (fun K1 hK1 => ?_))⟩
  · (obtain ⟨_, ⟨u0, u1⟩, u2, u3⟩ := hW; simp [go_sem, u0, u1])
  clear hK0 K0
  go_simp
  refine ⟨.string ⟨l1.toArray⟩, fun W hW => ?_, hK1 _ (wpQuiet_step (fun K0 hK0 => ?_))⟩
  · exact (PA.out W).mono fun e w4 ⟨he, hb⟩ => ⟨he, HR.step hW hb⟩
  clear hK1 K1
  go_simp
  first | (with_reducible refine hK0 _ (wpQuiet_step (fun K1 hK1 => ?_))) | (with_reducible refine ⟨_, fun _ _ => rfl, hK0 _ (wpQuiet_step (fun K1 hK1 => ?_))⟩) | (rw [if_neg (by intro e; cases e)]; with_reducible refine hK0 _ (wpQuiet_step (fun K1 hK1 => ?_)))
  clear hK0 K0
  go_simp
  first | (with_reducible refine hK1 _ (wpQuiet_step (fun K0 hK0 => ?_))) | (with_reducible refine ⟨_, fun _ _ => rfl, hK1 _ (wpQuiet_step (fun K0 hK0 => ?_))⟩) | (rw [if_neg (by intro e; cases e)]; with_reducible refine hK1 _ (wpQuiet_step (fun K0 hK0 => ?_)))
  clear hK1 K1
  go_simp
  first | (with_reducible refine hK0 _ (wpQuiet_step (fun K1 hK1 => ?_))) | (with_reducible refine ⟨_, fun _ _ => rfl, hK0 _ (wpQuiet_step (fun K1 hK1 => ?_))⟩) | (rw [if_neg (by intro e; cases e)]; with_reducible refine hK0 _ (wpQuiet_step (fun K1 hK1 => ?_)))
  clear hK0 K0
  go_simp
  refine ⟨A a, fun W hW => ?_, hK1 _ (wpQuiet_step (fun K0 hK0 => ?_))⟩
  · (obtain ⟨_, ⟨u0, u1⟩, u2, u3⟩ := hW; simp [go_sem, u0, u1])
  clear hK1 K1
  go_simp
  refine ⟨.string ⟨l1.toArray⟩, fun W hW => ?_, hK0 _ (wpQuiet_step (fun K1 hK1 => ?_))⟩
  · exact (PA.out W).mono fun e w4 ⟨he, hb⟩ => ⟨he, HR.step hW hb⟩
  clear hK0 K0
  go_simp
  refine ⟨A b, fun W hW => ?_, hK1 _ (wpQuiet_step (fun K0 hK0 => ?_))⟩
  · (obtain ⟨_, ⟨u0, u1⟩, u2, u3⟩ := hW; simp [go_sem, u2, u3])
  clear hK1 K1
  go_simp
  refine ⟨.string ⟨l2.toArray⟩, fun W hW => ?_, hK0 _ (wpQuiet_step (fun K1 hK1 => ?_))⟩
  · exact (PB.out W).mono fun e w4 ⟨he, hb⟩ => ⟨he, HR.step hW hb⟩
  clear hK0 K0
  go_simp
  first | (with_reducible refine hK1 _ (wpQuiet_step (fun K0 hK0 => ?_))) | (with_reducible refine ⟨_, fun _ _ => rfl, hK1 _ (wpQuiet_step (fun K0 hK0 => ?_))⟩) | (rw [if_neg (by intro e; cases e)]; with_reducible refine hK1 _ (wpQuiet_step (fun K0 hK0 => ?_)))
  clear hK1 K1
  go_simp
  first | (with_reducible refine hK0 _ (wpQuiet_step (fun K1 hK1 => ?_))) | (with_reducible refine ⟨_, fun _ _ => rfl, hK0 _ (wpQuiet_step (fun K1 hK1 => ?_))⟩) | (rw [if_neg (by intro e; cases e)]; with_reducible refine hK0 _ (wpQuiet_step (fun K1 hK1 => ?_)))
  clear hK0 K0
  go_simp
  first | (with_reducible refine hK1 _ (wpQuiet_step (fun K0 hK0 => ?_))) | (with_reducible refine ⟨_, fun _ _ => rfl, hK1 _ (wpQuiet_step (fun K0 hK0 => ?_))⟩) | (rw [if_neg (by intro e; cases e)]; with_reducible refine hK1 _ (wpQuiet_step (fun K0 hK0 => ?_)))
  clear hK1 K1
  go_simp
  first | (with_reducible refine hK0 _ (wpQuiet_step (fun K1 hK1 => ?_))) | (with_reducible refine ⟨_, fun _ _ => rfl, hK0 _ (wpQuiet_step (fun K1 hK1 => ?_))⟩) | (rw [if_neg (by intro e; cases e)]; with_reducible refine hK0 _ (wpQuiet_step (fun K1 hK1 => ?_)))
  clear hK0 K0
  go_simp
  first | (with_reducible refine hK1 _ (wpQuiet_step (fun K0 hK0 => ?_))) | (with_reducible refine ⟨_, fun _ _ => rfl, hK1 _ (wpQuiet_step (fun K0 hK0 => ?_))⟩) | (rw [if_neg (by intro e; cases e)]; with_reducible refine hK1 _ (wpQuiet_step (fun K0 hK0 => ?_)))
  clear hK1 K1
  go_simp
  first | (with_reducible refine hK0 _ (wpQuiet_step (fun K1 hK1 => ?_))) | (with_reducible refine ⟨_, fun _ _ => rfl, hK0 _ (wpQuiet_step (fun K1 hK1 => ?_))⟩) | (rw [if_neg (by intro e; cases e)]; with_reducible refine hK0 _ (wpQuiet_step (fun K1 hK1 => ?_)))
  clear hK0 K0
  go_simp
  refine ⟨.int .u64 (lo a : Nat), fun W hW => ?_, hK1 _ (wpQuiet_step (fun K0 hK0 => ?_))⟩
  · (obtain ⟨_, ⟨u0, u1⟩, u2, u3⟩ := hW; simp [go_sem, u1])
  clear hK1 K1
  go_simp
  refine ⟨.string ⟨l3.toArray⟩, fun W hW => ?_, hK0 _ (wpQuiet_step (fun K1 hK1 => ?_))⟩
  · exact (QA.out W).mono fun e w4 ⟨he, hb⟩ => ⟨he, HR.step hW hb⟩
  clear hK0 K0
  go_simp
  first | (with_reducible refine hK1 _ (wpQuiet_step (fun K0 hK0 => ?_))) | (with_reducible refine ⟨_, fun _ _ => rfl, hK1 _ (wpQuiet_step (fun K0 hK0 => ?_))⟩) | (rw [if_neg (by intro e; cases e)]; with_reducible refine hK1 _ (wpQuiet_step (fun K0 hK0 => ?_)))
  clear hK1 K1
  go_simp
  refine ⟨.int .u64 (lo b : Nat), fun W hW => ?_, hK0 _ (wpQuiet_step (fun K1 hK1 => ?_))⟩
  · (obtain ⟨_, ⟨u0, u1⟩, u2, u3⟩ := hW; simp [go_sem, u3])
  clear hK0 K0
  go_simp
  refine ⟨.string ⟨l4.toArray⟩, fun W hW => ?_, hK1 _ (wpQuiet_step (fun K0 hK0 => ?_))⟩
  · exact (QB.out W).mono fun e w4 ⟨he, hb⟩ => ⟨he, HR.step hW hb⟩
  clear hK1 K1
  go_simp
  first | (with_reducible refine hK0 _ (wpQuiet_step (fun K1 hK1 => ?_))) | (with_reducible refine ⟨_, fun _ _ => rfl, hK0 _ (wpQuiet_step (fun K1 hK1 => ?_))⟩) | (rw [if_neg (by intro e; cases e)]; with_reducible refine hK0 _ (wpQuiet_step (fun K1 hK1 => ?_)))
  clear hK0 K0
  go_simp
  first | (with_reducible refine hK1 _ (wpQuiet_step (fun K0 hK0 => ?_))) | (with_reducible refine ⟨_, fun _ _ => rfl, hK1 _ (wpQuiet_step (fun K0 hK0 => ?_))⟩) | (rw [if_neg (by intro e; cases e)]; with_reducible refine hK1 _ (wpQuiet_step (fun K0 hK0 => ?_)))
  clear hK1 K1
  go_simp
  refine ⟨.int .u64 (lo a : Nat), fun W hW => ?_, hK0 _ (wpQuiet_step (fun K1 hK1 => ?_))⟩
  · (obtain ⟨_, ⟨u0, u1⟩, u2, u3⟩ := hW; simp [go_sem, u1])
  clear hK0 K0
  go_simp
  first | (with_reducible refine hK1 _ (wpQuiet_step (fun K0 hK0 => ?_))) | (with_reducible refine ⟨_, fun _ _ => rfl, hK1 _ (wpQuiet_step (fun K0 hK0 => ?_))⟩) | (rw [if_neg (by intro e; cases e)]; with_reducible refine hK1 _ (wpQuiet_step (fun K0 hK0 => ?_)))
  clear hK1 K1
  go_simp
  refine ⟨.int .u64 (lo b : Nat), fun W hW => ?_, hK0 _ (wpQuiet_step (fun K1 hK1 => ?_))⟩
  · (obtain ⟨_, ⟨u0, u1⟩, u2, u3⟩ := hW; simp [go_sem, u3])
  clear hK0 K0
  go_simp
  first | (with_reducible refine hK1 _ (wpQuiet_step (fun K0 hK0 => ?_))) | (with_reducible refine ⟨_, fun _ _ => rfl, hK1 _ (wpQuiet_step (fun K0 hK0 => ?_))⟩) | (rw [if_neg (by intro e; cases e)]; with_reducible refine hK1 _ (wpQuiet_step (fun K0 hK0 => ?_)))
  clear hK1 K1
  go_simp
  first | (with_reducible refine hK0 _ (wpQuiet_step (fun K1 hK1 => ?_))) | (with_reducible refine ⟨_, fun _ _ => rfl, hK0 _ (wpQuiet_step (fun K1 hK1 => ?_))⟩) | (rw [if_neg (by intro e; cases e)]; with_reducible refine hK0 _ (wpQuiet_step (fun K1 hK1 => ?_)))
  clear hK0 K0
  go_simp
  first | (with_reducible refine hK1 _ (wpQuiet_step (fun K0 hK0 => ?_))) | (with_reducible refine ⟨_, fun _ _ => rfl, hK1 _ (wpQuiet_step (fun K0 hK0 => ?_))⟩) | (rw [if_neg (by intro e; cases e)]; with_reducible refine hK1 _ (wpQuiet_step (fun K0 hK0 => ?_)))
  clear hK1 K1
  go_simp
  first | (with_reducible refine hK0 _ (wpQuiet_nil ?_)) | (with_reducible refine ⟨_, fun _ _ => rfl, hK0 _ (wpQuiet_nil ?_)⟩) | (rw [if_neg (by intro e; cases e)]; with_reducible refine hK0 _ (wpQuiet_nil ?_))
  clear hK0 K0
  intro w2 H3
  go_wp2
  go_ret
  exact ⟨rfl, H3.1⟩

set_option maxRecDepth 100000 in
set_option maxHeartbeats 2000000 in
theorem rises_a2 {a b : Nat} (ha : Fits a) (hb : Fits b) (h : hi a < hi b) (l : ¬ lo a < lo b) (w : World) : Calls Try.prog 6 #[A a, A b] w (Gives (.bool true) w) := by
  have ea := hi_lo a
  have eb := hi_lo b
  have la := lo_lt a
  have lb := lo_lt b
  have X1 := less_of (k := 16) (B := true) ha hb (by first | exact decide_eq_true (by omega) | exact decide_eq_false (by omega))
  have X2 := less_of (k := 8) (B := false) la lb (by first | exact decide_eq_true (by omega) | exact decide_eq_false (by omega))
  have C1 : (hi a : Int) < (hi b : Int) := by omega
  have C1n : hi a < hi b := h
  have C3 : ¬ (lo a : Int) < (lo b : Int) := by omega
  have C3n : ¬ lo a < lo b := l
  have PA := hide (fun W => putAddr_any ha W)
  have PB := hide (fun W => putAddr_any hb W)
  have QA := hide (fun W => put64_any (lo a) la W)
  have QB := hide (fun W => put64_any (lo b) lb W)
  have LN := beL_length 16 a
  generalize beL 16 a = l1 at *
  generalize beL 16 b = l2 at *
  generalize beL 8 (lo a) = l3 at *
  generalize beL 8 (lo b) = l4 at *
  have H0 := hr_new w a b 24
  clear ea eb la lb h l
  go_enter Try.func6, Try.ntmps6
  go_wp2_with fail
  refine (awake_any _).mono ?_
  rintro e w1 ⟨rfl, hb1⟩
  have H1 := H0.step hb1
  clear H0 hb1
  obtain ⟨z0, ⟨c0, c1⟩, c2, c3⟩ := id H1
  clear z0
  go_wp2_with fail
  clear c0 c1 c2 c3
  have H2 := HR.drew H1
  refine wp_region_quiet (C := HR w a b) (by kernel_rfl) (by kernel_rfl) H2 (wpQuiet_step (fun K0 hK0 => ?_))
  go_simp
  refine ⟨A a, fun W hW => ?_, hK0 _ (wpQuiet_step (fun K1 hK1 => ?_))⟩
  · (obtain ⟨_, ⟨u0, u1⟩, u2, u3⟩ := hW; simp [go_sem, u0, u1])
  clear hK0 K0
  go_simp
  refine ⟨.string ⟨l1.toArray⟩, fun W hW => ?_, hK1 _ (wpQuiet_step (fun K0 hK0 => ?_))⟩
  · exact (PA.out W).mono fun e w4 ⟨he, hb⟩ => ⟨he, HR.step hW hb⟩
  clear hK1 K1
  go_simp
  first | (with_reducible refine hK0 _ (wpQuiet_step (fun K1 hK1 => ?_))) | (with_reducible refine ⟨_, fun _ _ => rfl, hK0 _ (wpQuiet_step (fun K1 hK1 => ?_))⟩) | (rw [if_neg (by intro e; cases e)]; with_reducible refine hK0 _ (wpQuiet_step (fun K1 hK1 => ?_)))
  clear hK0 K0
  go_simp
  first | (with_reducible refine hK1 _ (wpQuiet_step (fun K0 hK0 => ?_))) | (with_reducible refine ⟨_, fun _ _ => rfl, hK1 _ (wpQuiet_step (fun K0 hK0 => ?_))⟩) | (rw [if_neg (by intro e; cases e)]; with_reducible refine hK1 _ (wpQuiet_step (fun K0 hK0 => ?_)))
  clear hK1 K1
  go_simp
  first | (with_reducible refine hK0 _ (wpQuiet_step (fun K1 hK1 => ?_))) | (with_reducible refine ⟨_, fun _ _ => rfl, hK0 _ (wpQuiet_step (fun K1 hK1 => ?_))⟩) | (rw [if_neg (by intro e; cases e)]; with_reducible refine hK0 _ (wpQuiet_step (fun K1 hK1 => ?_)))
  clear hK0 K0
  go_simp
  refine ⟨A a, fun W hW => ?_, hK1 _ (wpQuiet_step (fun K0 hK0 => ?_))⟩
  · (obtain ⟨_, ⟨u0, u1⟩, u2, u3⟩ := hW; simp [go_sem, u0, u1])
  clear hK1 K1
  go_simp
  refine ⟨.string ⟨l1.toArray⟩, fun W hW => ?_, hK0 _ (wpQuiet_step (fun K1 hK1 => ?_))⟩
  · exact (PA.out W).mono fun e w4 ⟨he, hb⟩ => ⟨he, HR.step hW hb⟩
  clear hK0 K0
  go_simp
  refine ⟨A b, fun W hW => ?_, hK1 _ (wpQuiet_step (fun K0 hK0 => ?_))⟩
  · (obtain ⟨_, ⟨u0, u1⟩, u2, u3⟩ := hW; simp [go_sem, u2, u3])
  clear hK1 K1
  go_simp
  refine ⟨.string ⟨l2.toArray⟩, fun W hW => ?_, hK0 _ (wpQuiet_step (fun K1 hK1 => ?_))⟩
  · exact (PB.out W).mono fun e w4 ⟨he, hb⟩ => ⟨he, HR.step hW hb⟩
  clear hK0 K0
  go_simp
  first | (with_reducible refine hK1 _ (wpQuiet_step (fun K0 hK0 => ?_))) | (with_reducible refine ⟨_, fun _ _ => rfl, hK1 _ (wpQuiet_step (fun K0 hK0 => ?_))⟩) | (rw [if_neg (by intro e; cases e)]; with_reducible refine hK1 _ (wpQuiet_step (fun K0 hK0 => ?_)))
  clear hK1 K1
  go_simp
  first | (with_reducible refine hK0 _ (wpQuiet_step (fun K1 hK1 => ?_))) | (with_reducible refine ⟨_, fun _ _ => rfl, hK0 _ (wpQuiet_step (fun K1 hK1 => ?_))⟩) | (rw [if_neg (by intro e; cases e)]; with_reducible refine hK0 _ (wpQuiet_step (fun K1 hK1 => ?_)))
  clear hK0 K0
  go_simp
  first | (with_reducible refine hK1 _ (wpQuiet_step (fun K0 hK0 => ?_))) | (with_reducible refine ⟨_, fun _ _ => rfl, hK1 _ (wpQuiet_step (fun K0 hK0 => ?_))⟩) | (rw [if_neg (by intro e; cases e)]; with_reducible refine hK1 _ (wpQuiet_step (fun K0 hK0 => ?_)))
  clear hK1 K1
  go_simp
  first | (with_reducible refine hK0 _ (wpQuiet_step (fun K1 hK1 => ?_))) | (with_reducible refine ⟨_, fun _ _ => rfl, hK0 _ (wpQuiet_step (fun K1 hK1 => ?_))⟩) | (rw [if_neg (by intro e; cases e)]; with_reducible refine hK0 _ (wpQuiet_step (fun K1 hK1 => ?_)))
  clear hK0 K0
  go_simp
  first | (with_reducible refine hK1 _ (wpQuiet_step (fun K0 hK0 => ?_))) | (with_reducible refine ⟨_, fun _ _ => rfl, hK1 _ (wpQuiet_step (fun K0 hK0 => ?_))⟩) | (rw [if_neg (by intro e; cases e)]; with_reducible refine hK1 _ (wpQuiet_step (fun K0 hK0 => ?_)))
  clear hK1 K1
  go_simp
  first | (with_reducible refine hK0 _ (wpQuiet_step (fun K1 hK1 => ?_))) | (with_reducible refine ⟨_, fun _ _ => rfl, hK0 _ (wpQuiet_step (fun K1 hK1 => ?_))⟩) | (rw [if_neg (by intro e; cases e)]; with_reducible refine hK0 _ (wpQuiet_step (fun K1 hK1 => ?_)))
  clear hK0 K0
  go_simp
  refine ⟨.int .u64 (lo a : Nat), fun W hW => ?_, hK1 _ (wpQuiet_step (fun K0 hK0 => ?_))⟩
  · (obtain ⟨_, ⟨u0, u1⟩, u2, u3⟩ := hW; simp [go_sem, u1])
  clear hK1 K1
  go_simp
  refine ⟨.string ⟨l3.toArray⟩, fun W hW => ?_, hK0 _ (wpQuiet_step (fun K1 hK1 => ?_))⟩
  · exact (QA.out W).mono fun e w4 ⟨he, hb⟩ => ⟨he, HR.step hW hb⟩
  clear hK0 K0
  go_simp
  first | (with_reducible refine hK1 _ (wpQuiet_step (fun K0 hK0 => ?_))) | (with_reducible refine ⟨_, fun _ _ => rfl, hK1 _ (wpQuiet_step (fun K0 hK0 => ?_))⟩) | (rw [if_neg (by intro e; cases e)]; with_reducible refine hK1 _ (wpQuiet_step (fun K0 hK0 => ?_)))
  clear hK1 K1
  go_simp
  refine ⟨.int .u64 (lo b : Nat), fun W hW => ?_, hK0 _ (wpQuiet_step (fun K1 hK1 => ?_))⟩
  · (obtain ⟨_, ⟨u0, u1⟩, u2, u3⟩ := hW; simp [go_sem, u3])
  clear hK0 K0
  go_simp
  refine ⟨.string ⟨l4.toArray⟩, fun W hW => ?_, hK1 _ (wpQuiet_step (fun K0 hK0 => ?_))⟩
  · exact (QB.out W).mono fun e w4 ⟨he, hb⟩ => ⟨he, HR.step hW hb⟩
  clear hK1 K1
  go_simp
  first | (with_reducible refine hK0 _ (wpQuiet_step (fun K1 hK1 => ?_))) | (with_reducible refine ⟨_, fun _ _ => rfl, hK0 _ (wpQuiet_step (fun K1 hK1 => ?_))⟩) | (rw [if_neg (by intro e; cases e)]; with_reducible refine hK0 _ (wpQuiet_step (fun K1 hK1 => ?_)))
  clear hK0 K0
  go_simp
  first | (with_reducible refine hK1 _ (wpQuiet_step (fun K0 hK0 => ?_))) | (with_reducible refine ⟨_, fun _ _ => rfl, hK1 _ (wpQuiet_step (fun K0 hK0 => ?_))⟩) | (rw [if_neg (by intro e; cases e)]; with_reducible refine hK1 _ (wpQuiet_step (fun K0 hK0 => ?_)))
  clear hK1 K1
  go_simp
  refine ⟨.int .u64 (lo a : Nat), fun W hW => ?_, hK0 _ (wpQuiet_step (fun K1 hK1 => ?_))⟩
  · (obtain ⟨_, ⟨u0, u1⟩, u2, u3⟩ := hW; simp [go_sem, u1])
  clear hK0 K0
  go_simp
  first | (with_reducible refine hK1 _ (wpQuiet_step (fun K0 hK0 => ?_))) | (with_reducible refine ⟨_, fun _ _ => rfl, hK1 _ (wpQuiet_step (fun K0 hK0 => ?_))⟩) | (rw [if_neg (by intro e; cases e)]; with_reducible refine hK1 _ (wpQuiet_step (fun K0 hK0 => ?_)))
  clear hK1 K1
  go_simp
  refine ⟨.int .u64 (lo b : Nat), fun W hW => ?_, hK0 _ (wpQuiet_step (fun K1 hK1 => ?_))⟩
  · (obtain ⟨_, ⟨u0, u1⟩, u2, u3⟩ := hW; simp [go_sem, u3])
  clear hK0 K0
  go_simp
  first | (with_reducible refine hK1 _ (wpQuiet_step (fun K0 hK0 => ?_))) | (with_reducible refine ⟨_, fun _ _ => rfl, hK1 _ (wpQuiet_step (fun K0 hK0 => ?_))⟩) | (rw [if_neg (by intro e; cases e)]; with_reducible refine hK1 _ (wpQuiet_step (fun K0 hK0 => ?_)))
  clear hK1 K1
  go_simp
  first | (with_reducible refine hK0 _ (wpQuiet_step (fun K1 hK1 => ?_))) | (with_reducible refine ⟨_, fun _ _ => rfl, hK0 _ (wpQuiet_step (fun K1 hK1 => ?_))⟩) | (rw [if_neg (by intro e; cases e)]; with_reducible refine hK0 _ (wpQuiet_step (fun K1 hK1 => ?_)))
  clear hK0 K0
  go_simp
  first | (with_reducible refine hK1 _ (wpQuiet_step (fun K0 hK0 => ?_))) | (with_reducible refine ⟨_, fun _ _ => rfl, hK1 _ (wpQuiet_step (fun K0 hK0 => ?_))⟩) | (rw [if_neg (by intro e; cases e)]; with_reducible refine hK1 _ (wpQuiet_step (fun K0 hK0 => ?_)))
  clear hK1 K1
  go_simp
  first | (with_reducible refine hK0 _ (wpQuiet_nil ?_)) | (with_reducible refine ⟨_, fun _ _ => rfl, hK0 _ (wpQuiet_nil ?_)⟩) | (rw [if_neg (by intro e; cases e)]; with_reducible refine hK0 _ (wpQuiet_nil ?_))
  clear hK0 K0
  intro w2 H3
  go_wp2
  go_ret
  exact ⟨rfl, H3.1⟩

set_option maxRecDepth 100000 in
set_option maxHeartbeats 2000000 in
theorem rises_b1 {a b : Nat} (ha : Fits a) (hb : Fits b) (h : hi a = hi b) (l : lo a < lo b) (w : World) : Calls Try.prog 6 #[A a, A b] w (Gives (.bool true) w) := by
  have ea := hi_lo a
  have eb := hi_lo b
  have la := lo_lt a
  have lb := lo_lt b
  have X1 := less_of (k := 16) (B := true) ha hb (by first | exact decide_eq_true (by omega) | exact decide_eq_false (by omega))
  have X2 := less_of (k := 8) (B := true) la lb (by first | exact decide_eq_true (by omega) | exact decide_eq_false (by omega))
  have C1 : ¬ (hi a : Int) < (hi b : Int) := by omega
  have C1n : ¬ hi a < hi b := by omega
  have C2 : ((hi a : Int) == (hi b : Int)) = true := by rw [h]; simp
  have C3 : (lo a : Int) < (lo b : Int) := by omega
  have C3n : lo a < lo b := l
  have PA := hide (fun W => putAddr_any ha W)
  have PB := hide (fun W => putAddr_any hb W)
  have QA := hide (fun W => put64_any (lo a) la W)
  have QB := hide (fun W => put64_any (lo b) lb W)
  have LN := beL_length 16 a
  generalize beL 16 a = l1 at *
  generalize beL 16 b = l2 at *
  generalize beL 8 (lo a) = l3 at *
  generalize beL 8 (lo b) = l4 at *
  have H0 := hr_new w a b 24
  clear ea eb la lb h l
  go_enter Try.func6, Try.ntmps6
  go_wp2_with fail
  refine (awake_any _).mono ?_
  rintro e w1 ⟨rfl, hb1⟩
  have H1 := H0.step hb1
  clear H0 hb1
  obtain ⟨z0, ⟨c0, c1⟩, c2, c3⟩ := id H1
  clear z0
  go_wp2_with fail
  clear c0 c1 c2 c3
  have H2 := HR.drew H1
  refine wp_region_quiet (C := HR w a b) (by kernel_rfl) (by kernel_rfl) H2 (wpQuiet_step (fun K0 hK0 => ?_))
  go_simp
  refine ⟨A a, fun W hW => ?_, hK0 _ (wpQuiet_step (fun K1 hK1 => ?_))⟩
  · (obtain ⟨_, ⟨u0, u1⟩, u2, u3⟩ := hW; simp [go_sem, u0, u1])
  clear hK0 K0
  go_simp
  refine ⟨.string ⟨l1.toArray⟩, fun W hW => ?_, hK1 _ (wpQuiet_step (fun K0 hK0 => ?_))⟩
  · exact (PA.out W).mono fun e w4 ⟨he, hb⟩ => ⟨he, HR.step hW hb⟩
  clear hK1 K1
  go_simp
  first | (with_reducible refine hK0 _ (wpQuiet_step (fun K1 hK1 => ?_))) | (with_reducible refine ⟨_, fun _ _ => rfl, hK0 _ (wpQuiet_step (fun K1 hK1 => ?_))⟩) | (rw [if_neg (by intro e; cases e)]; with_reducible refine hK0 _ (wpQuiet_step (fun K1 hK1 => ?_)))
  clear hK0 K0
  go_simp
  first | (with_reducible refine hK1 _ (wpQuiet_step (fun K0 hK0 => ?_))) | (with_reducible refine ⟨_, fun _ _ => rfl, hK1 _ (wpQuiet_step (fun K0 hK0 => ?_))⟩) | (rw [if_neg (by intro e; cases e)]; with_reducible refine hK1 _ (wpQuiet_step (fun K0 hK0 => ?_)))
  clear hK1 K1
  go_simp
  first | (with_reducible refine hK0 _ (wpQuiet_step (fun K1 hK1 => ?_))) | (with_reducible refine ⟨_, fun _ _ => rfl, hK0 _ (wpQuiet_step (fun K1 hK1 => ?_))⟩) | (rw [if_neg (by intro e; cases e)]; with_reducible refine hK0 _ (wpQuiet_step (fun K1 hK1 => ?_)))
  clear hK0 K0
  go_simp
  refine ⟨A a, fun W hW => ?_, hK1 _ (wpQuiet_step (fun K0 hK0 => ?_))⟩
  · (obtain ⟨_, ⟨u0, u1⟩, u2, u3⟩ := hW; simp [go_sem, u0, u1])
  clear hK1 K1
  go_simp
  refine ⟨.string ⟨l1.toArray⟩, fun W hW => ?_, hK0 _ (wpQuiet_step (fun K1 hK1 => ?_))⟩
  · exact (PA.out W).mono fun e w4 ⟨he, hb⟩ => ⟨he, HR.step hW hb⟩
  clear hK0 K0
  go_simp
  refine ⟨A b, fun W hW => ?_, hK1 _ (wpQuiet_step (fun K0 hK0 => ?_))⟩
  · (obtain ⟨_, ⟨u0, u1⟩, u2, u3⟩ := hW; simp [go_sem, u2, u3])
  clear hK1 K1
  go_simp
  refine ⟨.string ⟨l2.toArray⟩, fun W hW => ?_, hK0 _ (wpQuiet_step (fun K1 hK1 => ?_))⟩
  · exact (PB.out W).mono fun e w4 ⟨he, hb⟩ => ⟨he, HR.step hW hb⟩
  clear hK0 K0
  go_simp
  first | (with_reducible refine hK1 _ (wpQuiet_step (fun K0 hK0 => ?_))) | (with_reducible refine ⟨_, fun _ _ => rfl, hK1 _ (wpQuiet_step (fun K0 hK0 => ?_))⟩) | (rw [if_neg (by intro e; cases e)]; with_reducible refine hK1 _ (wpQuiet_step (fun K0 hK0 => ?_)))
  clear hK1 K1
  go_simp
  first | (with_reducible refine hK0 _ (wpQuiet_step (fun K1 hK1 => ?_))) | (with_reducible refine ⟨_, fun _ _ => rfl, hK0 _ (wpQuiet_step (fun K1 hK1 => ?_))⟩) | (rw [if_neg (by intro e; cases e)]; with_reducible refine hK0 _ (wpQuiet_step (fun K1 hK1 => ?_)))
  clear hK0 K0
  go_simp
  first | (with_reducible refine hK1 _ (wpQuiet_step (fun K0 hK0 => ?_))) | (with_reducible refine ⟨_, fun _ _ => rfl, hK1 _ (wpQuiet_step (fun K0 hK0 => ?_))⟩) | (rw [if_neg (by intro e; cases e)]; with_reducible refine hK1 _ (wpQuiet_step (fun K0 hK0 => ?_)))
  clear hK1 K1
  go_simp
  first | (with_reducible refine hK0 _ (wpQuiet_step (fun K1 hK1 => ?_))) | (with_reducible refine ⟨_, fun _ _ => rfl, hK0 _ (wpQuiet_step (fun K1 hK1 => ?_))⟩) | (rw [if_neg (by intro e; cases e)]; with_reducible refine hK0 _ (wpQuiet_step (fun K1 hK1 => ?_)))
  clear hK0 K0
  go_simp
  first | (with_reducible refine hK1 _ (wpQuiet_step (fun K0 hK0 => ?_))) | (with_reducible refine ⟨_, fun _ _ => rfl, hK1 _ (wpQuiet_step (fun K0 hK0 => ?_))⟩) | (rw [if_neg (by intro e; cases e)]; with_reducible refine hK1 _ (wpQuiet_step (fun K0 hK0 => ?_)))
  clear hK1 K1
  go_simp
  first | (with_reducible refine hK0 _ (wpQuiet_step (fun K1 hK1 => ?_))) | (with_reducible refine ⟨_, fun _ _ => rfl, hK0 _ (wpQuiet_step (fun K1 hK1 => ?_))⟩) | (rw [if_neg (by intro e; cases e)]; with_reducible refine hK0 _ (wpQuiet_step (fun K1 hK1 => ?_)))
  clear hK0 K0
  go_simp
  refine ⟨.int .u64 (lo a : Nat), fun W hW => ?_, hK1 _ (wpQuiet_step (fun K0 hK0 => ?_))⟩
  · (obtain ⟨_, ⟨u0, u1⟩, u2, u3⟩ := hW; simp [go_sem, u1])
  clear hK1 K1
  go_simp
  refine ⟨.string ⟨l3.toArray⟩, fun W hW => ?_, hK0 _ (wpQuiet_step (fun K1 hK1 => ?_))⟩
  · exact (QA.out W).mono fun e w4 ⟨he, hb⟩ => ⟨he, HR.step hW hb⟩
  clear hK0 K0
  go_simp
  first | (with_reducible refine hK1 _ (wpQuiet_step (fun K0 hK0 => ?_))) | (with_reducible refine ⟨_, fun _ _ => rfl, hK1 _ (wpQuiet_step (fun K0 hK0 => ?_))⟩) | (rw [if_neg (by intro e; cases e)]; with_reducible refine hK1 _ (wpQuiet_step (fun K0 hK0 => ?_)))
  clear hK1 K1
  go_simp
  refine ⟨.int .u64 (lo b : Nat), fun W hW => ?_, hK0 _ (wpQuiet_step (fun K1 hK1 => ?_))⟩
  · (obtain ⟨_, ⟨u0, u1⟩, u2, u3⟩ := hW; simp [go_sem, u3])
  clear hK0 K0
  go_simp
  refine ⟨.string ⟨l4.toArray⟩, fun W hW => ?_, hK1 _ (wpQuiet_step (fun K0 hK0 => ?_))⟩
  · exact (QB.out W).mono fun e w4 ⟨he, hb⟩ => ⟨he, HR.step hW hb⟩
  clear hK1 K1
  go_simp
  first | (with_reducible refine hK0 _ (wpQuiet_step (fun K1 hK1 => ?_))) | (with_reducible refine ⟨_, fun _ _ => rfl, hK0 _ (wpQuiet_step (fun K1 hK1 => ?_))⟩) | (rw [if_neg (by intro e; cases e)]; with_reducible refine hK0 _ (wpQuiet_step (fun K1 hK1 => ?_)))
  clear hK0 K0
  go_simp
  first | (with_reducible refine hK1 _ (wpQuiet_step (fun K0 hK0 => ?_))) | (with_reducible refine ⟨_, fun _ _ => rfl, hK1 _ (wpQuiet_step (fun K0 hK0 => ?_))⟩) | (rw [if_neg (by intro e; cases e)]; with_reducible refine hK1 _ (wpQuiet_step (fun K0 hK0 => ?_)))
  clear hK1 K1
  go_simp
  refine ⟨.int .u64 (lo a : Nat), fun W hW => ?_, hK0 _ (wpQuiet_step (fun K1 hK1 => ?_))⟩
  · (obtain ⟨_, ⟨u0, u1⟩, u2, u3⟩ := hW; simp [go_sem, u1])
  clear hK0 K0
  go_simp
  first | (with_reducible refine hK1 _ (wpQuiet_step (fun K0 hK0 => ?_))) | (with_reducible refine ⟨_, fun _ _ => rfl, hK1 _ (wpQuiet_step (fun K0 hK0 => ?_))⟩) | (rw [if_neg (by intro e; cases e)]; with_reducible refine hK1 _ (wpQuiet_step (fun K0 hK0 => ?_)))
  clear hK1 K1
  go_simp
  refine ⟨.int .u64 (lo b : Nat), fun W hW => ?_, hK0 _ (wpQuiet_step (fun K1 hK1 => ?_))⟩
  · (obtain ⟨_, ⟨u0, u1⟩, u2, u3⟩ := hW; simp [go_sem, u3])
  clear hK0 K0
  go_simp
  first | (with_reducible refine hK1 _ (wpQuiet_step (fun K0 hK0 => ?_))) | (with_reducible refine ⟨_, fun _ _ => rfl, hK1 _ (wpQuiet_step (fun K0 hK0 => ?_))⟩) | (rw [if_neg (by intro e; cases e)]; with_reducible refine hK1 _ (wpQuiet_step (fun K0 hK0 => ?_)))
  clear hK1 K1
  go_simp
  first | (with_reducible refine hK0 _ (wpQuiet_step (fun K1 hK1 => ?_))) | (with_reducible refine ⟨_, fun _ _ => rfl, hK0 _ (wpQuiet_step (fun K1 hK1 => ?_))⟩) | (rw [if_neg (by intro e; cases e)]; with_reducible refine hK0 _ (wpQuiet_step (fun K1 hK1 => ?_)))
  clear hK0 K0
  go_simp
  first | (with_reducible refine hK1 _ (wpQuiet_step (fun K0 hK0 => ?_))) | (with_reducible refine ⟨_, fun _ _ => rfl, hK1 _ (wpQuiet_step (fun K0 hK0 => ?_))⟩) | (rw [if_neg (by intro e; cases e)]; with_reducible refine hK1 _ (wpQuiet_step (fun K0 hK0 => ?_)))
  clear hK1 K1
  go_simp
  first | (with_reducible refine hK0 _ (wpQuiet_nil ?_)) | (with_reducible refine ⟨_, fun _ _ => rfl, hK0 _ (wpQuiet_nil ?_)⟩) | (rw [if_neg (by intro e; cases e)]; with_reducible refine hK0 _ (wpQuiet_nil ?_))
  clear hK0 K0
  intro w2 H3
  go_wp2
  go_ret
  exact ⟨rfl, H3.1⟩

set_option maxRecDepth 100000 in
set_option maxHeartbeats 2000000 in
theorem rises_b2 {a b : Nat} (ha : Fits a) (hb : Fits b) (h : hi a = hi b) (l : ¬ lo a < lo b) (w : World) : Calls Try.prog 6 #[A a, A b] w (Gives (.bool true) w) := by
  have ea := hi_lo a
  have eb := hi_lo b
  have la := lo_lt a
  have lb := lo_lt b
  have X1 := less_of (k := 16) (B := false) ha hb (by first | exact decide_eq_true (by omega) | exact decide_eq_false (by omega))
  have X2 := less_of (k := 8) (B := false) la lb (by first | exact decide_eq_true (by omega) | exact decide_eq_false (by omega))
  have C1 : ¬ (hi a : Int) < (hi b : Int) := by omega
  have C1n : ¬ hi a < hi b := by omega
  have C2 : ((hi a : Int) == (hi b : Int)) = true := by rw [h]; simp
  have C3 : ¬ (lo a : Int) < (lo b : Int) := by omega
  have C3n : ¬ lo a < lo b := l
  have PA := hide (fun W => putAddr_any ha W)
  have PB := hide (fun W => putAddr_any hb W)
  have QA := hide (fun W => put64_any (lo a) la W)
  have QB := hide (fun W => put64_any (lo b) lb W)
  have LN := beL_length 16 a
  generalize beL 16 a = l1 at *
  generalize beL 16 b = l2 at *
  generalize beL 8 (lo a) = l3 at *
  generalize beL 8 (lo b) = l4 at *
  have H0 := hr_new w a b 24
  clear ea eb la lb h l
  go_enter Try.func6, Try.ntmps6
  go_wp2_with fail
  refine (awake_any _).mono ?_
  rintro e w1 ⟨rfl, hb1⟩
  have H1 := H0.step hb1
  clear H0 hb1
  obtain ⟨z0, ⟨c0, c1⟩, c2, c3⟩ := id H1
  clear z0
  go_wp2_with fail
  clear c0 c1 c2 c3
  have H2 := HR.drew H1
  refine wp_region_quiet (C := HR w a b) (by kernel_rfl) (by kernel_rfl) H2 (wpQuiet_step (fun K0 hK0 => ?_))
  go_simp
  refine ⟨A a, fun W hW => ?_, hK0 _ (wpQuiet_step (fun K1 hK1 => ?_))⟩
  · (obtain ⟨_, ⟨u0, u1⟩, u2, u3⟩ := hW; simp [go_sem, u0, u1])
  clear hK0 K0
  go_simp
  refine ⟨.string ⟨l1.toArray⟩, fun W hW => ?_, hK1 _ (wpQuiet_step (fun K0 hK0 => ?_))⟩
  · exact (PA.out W).mono fun e w4 ⟨he, hb⟩ => ⟨he, HR.step hW hb⟩
  clear hK1 K1
  go_simp
  first | (with_reducible refine hK0 _ (wpQuiet_step (fun K1 hK1 => ?_))) | (with_reducible refine ⟨_, fun _ _ => rfl, hK0 _ (wpQuiet_step (fun K1 hK1 => ?_))⟩) | (rw [if_neg (by intro e; cases e)]; with_reducible refine hK0 _ (wpQuiet_step (fun K1 hK1 => ?_)))
  clear hK0 K0
  go_simp
  first | (with_reducible refine hK1 _ (wpQuiet_step (fun K0 hK0 => ?_))) | (with_reducible refine ⟨_, fun _ _ => rfl, hK1 _ (wpQuiet_step (fun K0 hK0 => ?_))⟩) | (rw [if_neg (by intro e; cases e)]; with_reducible refine hK1 _ (wpQuiet_step (fun K0 hK0 => ?_)))
  clear hK1 K1
  go_simp
  first | (with_reducible refine hK0 _ (wpQuiet_step (fun K1 hK1 => ?_))) | (with_reducible refine ⟨_, fun _ _ => rfl, hK0 _ (wpQuiet_step (fun K1 hK1 => ?_))⟩) | (rw [if_neg (by intro e; cases e)]; with_reducible refine hK0 _ (wpQuiet_step (fun K1 hK1 => ?_)))
  clear hK0 K0
  go_simp
  refine ⟨A a, fun W hW => ?_, hK1 _ (wpQuiet_step (fun K0 hK0 => ?_))⟩
  · (obtain ⟨_, ⟨u0, u1⟩, u2, u3⟩ := hW; simp [go_sem, u0, u1])
  clear hK1 K1
  go_simp
  refine ⟨.string ⟨l1.toArray⟩, fun W hW => ?_, hK0 _ (wpQuiet_step (fun K1 hK1 => ?_))⟩
  · exact (PA.out W).mono fun e w4 ⟨he, hb⟩ => ⟨he, HR.step hW hb⟩
  clear hK0 K0
  go_simp
  refine ⟨A b, fun W hW => ?_, hK1 _ (wpQuiet_step (fun K0 hK0 => ?_))⟩
  · (obtain ⟨_, ⟨u0, u1⟩, u2, u3⟩ := hW; simp [go_sem, u2, u3])
  clear hK1 K1
  go_simp
  refine ⟨.string ⟨l2.toArray⟩, fun W hW => ?_, hK0 _ (wpQuiet_step (fun K1 hK1 => ?_))⟩
  · exact (PB.out W).mono fun e w4 ⟨he, hb⟩ => ⟨he, HR.step hW hb⟩
  clear hK0 K0
  go_simp
  first | (with_reducible refine hK1 _ (wpQuiet_step (fun K0 hK0 => ?_))) | (with_reducible refine ⟨_, fun _ _ => rfl, hK1 _ (wpQuiet_step (fun K0 hK0 => ?_))⟩) | (rw [if_neg (by intro e; cases e)]; with_reducible refine hK1 _ (wpQuiet_step (fun K0 hK0 => ?_)))
  clear hK1 K1
  go_simp
  first | (with_reducible refine hK0 _ (wpQuiet_step (fun K1 hK1 => ?_))) | (with_reducible refine ⟨_, fun _ _ => rfl, hK0 _ (wpQuiet_step (fun K1 hK1 => ?_))⟩) | (rw [if_neg (by intro e; cases e)]; with_reducible refine hK0 _ (wpQuiet_step (fun K1 hK1 => ?_)))
  clear hK0 K0
  go_simp
  first | (with_reducible refine hK1 _ (wpQuiet_step (fun K0 hK0 => ?_))) | (with_reducible refine ⟨_, fun _ _ => rfl, hK1 _ (wpQuiet_step (fun K0 hK0 => ?_))⟩) | (rw [if_neg (by intro e; cases e)]; with_reducible refine hK1 _ (wpQuiet_step (fun K0 hK0 => ?_)))
  clear hK1 K1
  go_simp
  first | (with_reducible refine hK0 _ (wpQuiet_step (fun K1 hK1 => ?_))) | (with_reducible refine ⟨_, fun _ _ => rfl, hK0 _ (wpQuiet_step (fun K1 hK1 => ?_))⟩) | (rw [if_neg (by intro e; cases e)]; with_reducible refine hK0 _ (wpQuiet_step (fun K1 hK1 => ?_)))
  clear hK0 K0
  go_simp
  first | (with_reducible refine hK1 _ (wpQuiet_step (fun K0 hK0 => ?_))) | (with_reducible refine ⟨_, fun _ _ => rfl, hK1 _ (wpQuiet_step (fun K0 hK0 => ?_))⟩) | (rw [if_neg (by intro e; cases e)]; with_reducible refine hK1 _ (wpQuiet_step (fun K0 hK0 => ?_)))
  clear hK1 K1
  go_simp
  first | (with_reducible refine hK0 _ (wpQuiet_step (fun K1 hK1 => ?_))) | (with_reducible refine ⟨_, fun _ _ => rfl, hK0 _ (wpQuiet_step (fun K1 hK1 => ?_))⟩) | (rw [if_neg (by intro e; cases e)]; with_reducible refine hK0 _ (wpQuiet_step (fun K1 hK1 => ?_)))
  clear hK0 K0
  go_simp
  refine ⟨.int .u64 (lo a : Nat), fun W hW => ?_, hK1 _ (wpQuiet_step (fun K0 hK0 => ?_))⟩
  · (obtain ⟨_, ⟨u0, u1⟩, u2, u3⟩ := hW; simp [go_sem, u1])
  clear hK1 K1
  go_simp
  refine ⟨.string ⟨l3.toArray⟩, fun W hW => ?_, hK0 _ (wpQuiet_step (fun K1 hK1 => ?_))⟩
  · exact (QA.out W).mono fun e w4 ⟨he, hb⟩ => ⟨he, HR.step hW hb⟩
  clear hK0 K0
  go_simp
  first | (with_reducible refine hK1 _ (wpQuiet_step (fun K0 hK0 => ?_))) | (with_reducible refine ⟨_, fun _ _ => rfl, hK1 _ (wpQuiet_step (fun K0 hK0 => ?_))⟩) | (rw [if_neg (by intro e; cases e)]; with_reducible refine hK1 _ (wpQuiet_step (fun K0 hK0 => ?_)))
  clear hK1 K1
  go_simp
  refine ⟨.int .u64 (lo b : Nat), fun W hW => ?_, hK0 _ (wpQuiet_step (fun K1 hK1 => ?_))⟩
  · (obtain ⟨_, ⟨u0, u1⟩, u2, u3⟩ := hW; simp [go_sem, u3])
  clear hK0 K0
  go_simp
  refine ⟨.string ⟨l4.toArray⟩, fun W hW => ?_, hK1 _ (wpQuiet_step (fun K0 hK0 => ?_))⟩
  · exact (QB.out W).mono fun e w4 ⟨he, hb⟩ => ⟨he, HR.step hW hb⟩
  clear hK1 K1
  go_simp
  first | (with_reducible refine hK0 _ (wpQuiet_step (fun K1 hK1 => ?_))) | (with_reducible refine ⟨_, fun _ _ => rfl, hK0 _ (wpQuiet_step (fun K1 hK1 => ?_))⟩) | (rw [if_neg (by intro e; cases e)]; with_reducible refine hK0 _ (wpQuiet_step (fun K1 hK1 => ?_)))
  clear hK0 K0
  go_simp
  first | (with_reducible refine hK1 _ (wpQuiet_step (fun K0 hK0 => ?_))) | (with_reducible refine ⟨_, fun _ _ => rfl, hK1 _ (wpQuiet_step (fun K0 hK0 => ?_))⟩) | (rw [if_neg (by intro e; cases e)]; with_reducible refine hK1 _ (wpQuiet_step (fun K0 hK0 => ?_)))
  clear hK1 K1
  go_simp
  refine ⟨.int .u64 (lo a : Nat), fun W hW => ?_, hK0 _ (wpQuiet_step (fun K1 hK1 => ?_))⟩
  · (obtain ⟨_, ⟨u0, u1⟩, u2, u3⟩ := hW; simp [go_sem, u1])
  clear hK0 K0
  go_simp
  first | (with_reducible refine hK1 _ (wpQuiet_step (fun K0 hK0 => ?_))) | (with_reducible refine ⟨_, fun _ _ => rfl, hK1 _ (wpQuiet_step (fun K0 hK0 => ?_))⟩) | (rw [if_neg (by intro e; cases e)]; with_reducible refine hK1 _ (wpQuiet_step (fun K0 hK0 => ?_)))
  clear hK1 K1
  go_simp
  refine ⟨.int .u64 (lo b : Nat), fun W hW => ?_, hK0 _ (wpQuiet_step (fun K1 hK1 => ?_))⟩
  · (obtain ⟨_, ⟨u0, u1⟩, u2, u3⟩ := hW; simp [go_sem, u3])
  clear hK0 K0
  go_simp
  first | (with_reducible refine hK1 _ (wpQuiet_step (fun K0 hK0 => ?_))) | (with_reducible refine ⟨_, fun _ _ => rfl, hK1 _ (wpQuiet_step (fun K0 hK0 => ?_))⟩) | (rw [if_neg (by intro e; cases e)]; with_reducible refine hK1 _ (wpQuiet_step (fun K0 hK0 => ?_)))
  clear hK1 K1
  go_simp
  first | (with_reducible refine hK0 _ (wpQuiet_step (fun K1 hK1 => ?_))) | (with_reducible refine ⟨_, fun _ _ => rfl, hK0 _ (wpQuiet_step (fun K1 hK1 => ?_))⟩) | (rw [if_neg (by intro e; cases e)]; with_reducible refine hK0 _ (wpQuiet_step (fun K1 hK1 => ?_)))
  clear hK0 K0
  go_simp
  first | (with_reducible refine hK1 _ (wpQuiet_step (fun K0 hK0 => ?_))) | (with_reducible refine ⟨_, fun _ _ => rfl, hK1 _ (wpQuiet_step (fun K0 hK0 => ?_))⟩) | (rw [if_neg (by intro e; cases e)]; with_reducible refine hK1 _ (wpQuiet_step (fun K0 hK0 => ?_)))
  clear hK1 K1
  go_simp
  first | (with_reducible refine hK0 _ (wpQuiet_nil ?_)) | (with_reducible refine ⟨_, fun _ _ => rfl, hK0 _ (wpQuiet_nil ?_)⟩) | (rw [if_neg (by intro e; cases e)]; with_reducible refine hK0 _ (wpQuiet_nil ?_))
  clear hK0 K0
  intro w2 H3
  go_wp2
  go_ret
  exact ⟨rfl, H3.1⟩

set_option maxRecDepth 100000 in
set_option maxHeartbeats 2000000 in
theorem rises_c1 {a b : Nat} (ha : Fits a) (hb : Fits b) (h : hi b < hi a) (l : lo a < lo b) (w : World) : Calls Try.prog 6 #[A a, A b] w (Gives (.bool true) w) := by
  have ea := hi_lo a
  have eb := hi_lo b
  have la := lo_lt a
  have lb := lo_lt b
  have X1 := less_of (k := 16) (B := false) ha hb (by first | exact decide_eq_true (by omega) | exact decide_eq_false (by omega))
  have X2 := less_of (k := 8) (B := true) la lb (by first | exact decide_eq_true (by omega) | exact decide_eq_false (by omega))
  have C1 : ¬ (hi a : Int) < (hi b : Int) := by omega
  have C1n : ¬ hi a < hi b := by omega
  have C2 : ((hi a : Int) == (hi b : Int)) = false := by rw [beq_eq_false_iff_ne]; omega
  have C3 : (lo a : Int) < (lo b : Int) := by omega
  have C3n : lo a < lo b := l
  have PA := hide (fun W => putAddr_any ha W)
  have PB := hide (fun W => putAddr_any hb W)
  have QA := hide (fun W => put64_any (lo a) la W)
  have QB := hide (fun W => put64_any (lo b) lb W)
  have LN := beL_length 16 a
  generalize beL 16 a = l1 at *
  generalize beL 16 b = l2 at *
  generalize beL 8 (lo a) = l3 at *
  generalize beL 8 (lo b) = l4 at *
  have H0 := hr_new w a b 24
  clear ea eb la lb h l
  go_enter Try.func6, Try.ntmps6
  go_wp2_with fail
  refine (awake_any _).mono ?_
  rintro e w1 ⟨rfl, hb1⟩
  have H1 := H0.step hb1
  clear H0 hb1
  obtain ⟨z0, ⟨c0, c1⟩, c2, c3⟩ := id H1
  clear z0
  go_wp2_with fail
  clear c0 c1 c2 c3
  have H2 := HR.drew H1
  refine wp_region_quiet (C := HR w a b) (by kernel_rfl) (by kernel_rfl) H2 (wpQuiet_step (fun K0 hK0 => ?_))
  go_simp
  refine ⟨A a, fun W hW => ?_, hK0 _ (wpQuiet_step (fun K1 hK1 => ?_))⟩
  · (obtain ⟨_, ⟨u0, u1⟩, u2, u3⟩ := hW; simp [go_sem, u0, u1])
  clear hK0 K0
  go_simp
  refine ⟨.string ⟨l1.toArray⟩, fun W hW => ?_, hK1 _ (wpQuiet_step (fun K0 hK0 => ?_))⟩
  · exact (PA.out W).mono fun e w4 ⟨he, hb⟩ => ⟨he, HR.step hW hb⟩
  clear hK1 K1
  go_simp
  first | (with_reducible refine hK0 _ (wpQuiet_step (fun K1 hK1 => ?_))) | (with_reducible refine ⟨_, fun _ _ => rfl, hK0 _ (wpQuiet_step (fun K1 hK1 => ?_))⟩) | (rw [if_neg (by intro e; cases e)]; with_reducible refine hK0 _ (wpQuiet_step (fun K1 hK1 => ?_)))
  clear hK0 K0
  go_simp
  first | (with_reducible refine hK1 _ (wpQuiet_step (fun K0 hK0 => ?_))) | (with_reducible refine ⟨_, fun _ _ => rfl, hK1 _ (wpQuiet_step (fun K0 hK0 => ?_))⟩) | (rw [if_neg (by intro e; cases e)]; with_reducible refine hK1 _ (wpQuiet_step (fun K0 hK0 => ?_)))
  clear hK1 K1
  go_simp
  first | (with_reducible refine hK0 _ (wpQuiet_step (fun K1 hK1 => ?_))) | (with_reducible refine ⟨_, fun _ _ => rfl, hK0 _ (wpQuiet_step (fun K1 hK1 => ?_))⟩) | (rw [if_neg (by intro e; cases e)]; with_reducible refine hK0 _ (wpQuiet_step (fun K1 hK1 => ?_)))
  clear hK0 K0
  go_simp
  refine ⟨A a, fun W hW => ?_, hK1 _ (wpQuiet_step (fun K0 hK0 => ?_))⟩
  · (obtain ⟨_, ⟨u0, u1⟩, u2, u3⟩ := hW; simp [go_sem, u0, u1])
  clear hK1 K1
  go_simp
  refine ⟨.string ⟨l1.toArray⟩, fun W hW => ?_, hK0 _ (wpQuiet_step (fun K1 hK1 => ?_))⟩
  · exact (PA.out W).mono fun e w4 ⟨he, hb⟩ => ⟨he, HR.step hW hb⟩
  clear hK0 K0
  go_simp
  refine ⟨A b, fun W hW => ?_, hK1 _ (wpQuiet_step (fun K0 hK0 => ?_))⟩
  · (obtain ⟨_, ⟨u0, u1⟩, u2, u3⟩ := hW; simp [go_sem, u2, u3])
  clear hK1 K1
  go_simp
  refine ⟨.string ⟨l2.toArray⟩, fun W hW => ?_, hK0 _ (wpQuiet_step (fun K1 hK1 => ?_))⟩
  · exact (PB.out W).mono fun e w4 ⟨he, hb⟩ => ⟨he, HR.step hW hb⟩
  clear hK0 K0
  go_simp
  first | (with_reducible refine hK1 _ (wpQuiet_step (fun K0 hK0 => ?_))) | (with_reducible refine ⟨_, fun _ _ => rfl, hK1 _ (wpQuiet_step (fun K0 hK0 => ?_))⟩) | (rw [if_neg (by intro e; cases e)]; with_reducible refine hK1 _ (wpQuiet_step (fun K0 hK0 => ?_)))
  clear hK1 K1
  go_simp
  first | (with_reducible refine hK0 _ (wpQuiet_step (fun K1 hK1 => ?_))) | (with_reducible refine ⟨_, fun _ _ => rfl, hK0 _ (wpQuiet_step (fun K1 hK1 => ?_))⟩) | (rw [if_neg (by intro e; cases e)]; with_reducible refine hK0 _ (wpQuiet_step (fun K1 hK1 => ?_)))
  clear hK0 K0
  go_simp
  first | (with_reducible refine hK1 _ (wpQuiet_step (fun K0 hK0 => ?_))) | (with_reducible refine ⟨_, fun _ _ => rfl, hK1 _ (wpQuiet_step (fun K0 hK0 => ?_))⟩) | (rw [if_neg (by intro e; cases e)]; with_reducible refine hK1 _ (wpQuiet_step (fun K0 hK0 => ?_)))
  clear hK1 K1
  go_simp
  first | (with_reducible refine hK0 _ (wpQuiet_step (fun K1 hK1 => ?_))) | (with_reducible refine ⟨_, fun _ _ => rfl, hK0 _ (wpQuiet_step (fun K1 hK1 => ?_))⟩) | (rw [if_neg (by intro e; cases e)]; with_reducible refine hK0 _ (wpQuiet_step (fun K1 hK1 => ?_)))
  clear hK0 K0
  go_simp
  first | (with_reducible refine hK1 _ (wpQuiet_step (fun K0 hK0 => ?_))) | (with_reducible refine ⟨_, fun _ _ => rfl, hK1 _ (wpQuiet_step (fun K0 hK0 => ?_))⟩) | (rw [if_neg (by intro e; cases e)]; with_reducible refine hK1 _ (wpQuiet_step (fun K0 hK0 => ?_)))
  clear hK1 K1
  go_simp
  first | (with_reducible refine hK0 _ (wpQuiet_step (fun K1 hK1 => ?_))) | (with_reducible refine ⟨_, fun _ _ => rfl, hK0 _ (wpQuiet_step (fun K1 hK1 => ?_))⟩) | (rw [if_neg (by intro e; cases e)]; with_reducible refine hK0 _ (wpQuiet_step (fun K1 hK1 => ?_)))
  clear hK0 K0
  go_simp
  refine ⟨.int .u64 (lo a : Nat), fun W hW => ?_, hK1 _ (wpQuiet_step (fun K0 hK0 => ?_))⟩
  · (obtain ⟨_, ⟨u0, u1⟩, u2, u3⟩ := hW; simp [go_sem, u1])
  clear hK1 K1
  go_simp
  refine ⟨.string ⟨l3.toArray⟩, fun W hW => ?_, hK0 _ (wpQuiet_step (fun K1 hK1 => ?_))⟩
  · exact (QA.out W).mono fun e w4 ⟨he, hb⟩ => ⟨he, HR.step hW hb⟩
  clear hK0 K0
  go_simp
  first | (with_reducible refine hK1 _ (wpQuiet_step (fun K0 hK0 => ?_))) | (with_reducible refine ⟨_, fun _ _ => rfl, hK1 _ (wpQuiet_step (fun K0 hK0 => ?_))⟩) | (rw [if_neg (by intro e; cases e)]; with_reducible refine hK1 _ (wpQuiet_step (fun K0 hK0 => ?_)))
  clear hK1 K1
  go_simp
  refine ⟨.int .u64 (lo b : Nat), fun W hW => ?_, hK0 _ (wpQuiet_step (fun K1 hK1 => ?_))⟩
  · (obtain ⟨_, ⟨u0, u1⟩, u2, u3⟩ := hW; simp [go_sem, u3])
  clear hK0 K0
  go_simp
  refine ⟨.string ⟨l4.toArray⟩, fun W hW => ?_, hK1 _ (wpQuiet_step (fun K0 hK0 => ?_))⟩
  · exact (QB.out W).mono fun e w4 ⟨he, hb⟩ => ⟨he, HR.step hW hb⟩
  clear hK1 K1
  go_simp
  first | (with_reducible refine hK0 _ (wpQuiet_step (fun K1 hK1 => ?_))) | (with_reducible refine ⟨_, fun _ _ => rfl, hK0 _ (wpQuiet_step (fun K1 hK1 => ?_))⟩) | (rw [if_neg (by intro e; cases e)]; with_reducible refine hK0 _ (wpQuiet_step (fun K1 hK1 => ?_)))
  clear hK0 K0
  go_simp
  first | (with_reducible refine hK1 _ (wpQuiet_step (fun K0 hK0 => ?_))) | (with_reducible refine ⟨_, fun _ _ => rfl, hK1 _ (wpQuiet_step (fun K0 hK0 => ?_))⟩) | (rw [if_neg (by intro e; cases e)]; with_reducible refine hK1 _ (wpQuiet_step (fun K0 hK0 => ?_)))
  clear hK1 K1
  go_simp
  refine ⟨.int .u64 (lo a : Nat), fun W hW => ?_, hK0 _ (wpQuiet_step (fun K1 hK1 => ?_))⟩
  · (obtain ⟨_, ⟨u0, u1⟩, u2, u3⟩ := hW; simp [go_sem, u1])
  clear hK0 K0
  go_simp
  first | (with_reducible refine hK1 _ (wpQuiet_step (fun K0 hK0 => ?_))) | (with_reducible refine ⟨_, fun _ _ => rfl, hK1 _ (wpQuiet_step (fun K0 hK0 => ?_))⟩) | (rw [if_neg (by intro e; cases e)]; with_reducible refine hK1 _ (wpQuiet_step (fun K0 hK0 => ?_)))
  clear hK1 K1
  go_simp
  refine ⟨.int .u64 (lo b : Nat), fun W hW => ?_, hK0 _ (wpQuiet_step (fun K1 hK1 => ?_))⟩
  · (obtain ⟨_, ⟨u0, u1⟩, u2, u3⟩ := hW; simp [go_sem, u3])
  clear hK0 K0
  go_simp
  first | (with_reducible refine hK1 _ (wpQuiet_step (fun K0 hK0 => ?_))) | (with_reducible refine ⟨_, fun _ _ => rfl, hK1 _ (wpQuiet_step (fun K0 hK0 => ?_))⟩) | (rw [if_neg (by intro e; cases e)]; with_reducible refine hK1 _ (wpQuiet_step (fun K0 hK0 => ?_)))
  clear hK1 K1
  go_simp
  first | (with_reducible refine hK0 _ (wpQuiet_step (fun K1 hK1 => ?_))) | (with_reducible refine ⟨_, fun _ _ => rfl, hK0 _ (wpQuiet_step (fun K1 hK1 => ?_))⟩) | (rw [if_neg (by intro e; cases e)]; with_reducible refine hK0 _ (wpQuiet_step (fun K1 hK1 => ?_)))
  clear hK0 K0
  go_simp
  first | (with_reducible refine hK1 _ (wpQuiet_step (fun K0 hK0 => ?_))) | (with_reducible refine ⟨_, fun _ _ => rfl, hK1 _ (wpQuiet_step (fun K0 hK0 => ?_))⟩) | (rw [if_neg (by intro e; cases e)]; with_reducible refine hK1 _ (wpQuiet_step (fun K0 hK0 => ?_)))
  clear hK1 K1
  go_simp
  first | (with_reducible refine hK0 _ (wpQuiet_nil ?_)) | (with_reducible refine ⟨_, fun _ _ => rfl, hK0 _ (wpQuiet_nil ?_)⟩) | (rw [if_neg (by intro e; cases e)]; with_reducible refine hK0 _ (wpQuiet_nil ?_))
  clear hK0 K0
  intro w2 H3
  go_wp2
  go_ret
  exact ⟨rfl, H3.1⟩

set_option maxRecDepth 100000 in
set_option maxHeartbeats 2000000 in
theorem rises_c2 {a b : Nat} (ha : Fits a) (hb : Fits b) (h : hi b < hi a) (l : ¬ lo a < lo b) (w : World) : Calls Try.prog 6 #[A a, A b] w (Gives (.bool true) w) := by
  have ea := hi_lo a
  have eb := hi_lo b
  have la := lo_lt a
  have lb := lo_lt b
  have X1 := less_of (k := 16) (B := false) ha hb (by first | exact decide_eq_true (by omega) | exact decide_eq_false (by omega))
  have X2 := less_of (k := 8) (B := false) la lb (by first | exact decide_eq_true (by omega) | exact decide_eq_false (by omega))
  have C1 : ¬ (hi a : Int) < (hi b : Int) := by omega
  have C1n : ¬ hi a < hi b := by omega
  have C2 : ((hi a : Int) == (hi b : Int)) = false := by rw [beq_eq_false_iff_ne]; omega
  have C3 : ¬ (lo a : Int) < (lo b : Int) := by omega
  have C3n : ¬ lo a < lo b := l
  have PA := hide (fun W => putAddr_any ha W)
  have PB := hide (fun W => putAddr_any hb W)
  have QA := hide (fun W => put64_any (lo a) la W)
  have QB := hide (fun W => put64_any (lo b) lb W)
  have LN := beL_length 16 a
  generalize beL 16 a = l1 at *
  generalize beL 16 b = l2 at *
  generalize beL 8 (lo a) = l3 at *
  generalize beL 8 (lo b) = l4 at *
  have H0 := hr_new w a b 24
  clear ea eb la lb h l
  go_enter Try.func6, Try.ntmps6
  go_wp2_with fail
  refine (awake_any _).mono ?_
  rintro e w1 ⟨rfl, hb1⟩
  have H1 := H0.step hb1
  clear H0 hb1
  obtain ⟨z0, ⟨c0, c1⟩, c2, c3⟩ := id H1
  clear z0
  go_wp2_with fail
  clear c0 c1 c2 c3
  have H2 := HR.drew H1
  refine wp_region_quiet (C := HR w a b) (by kernel_rfl) (by kernel_rfl) H2 (wpQuiet_step (fun K0 hK0 => ?_))
  go_simp
  refine ⟨A a, fun W hW => ?_, hK0 _ (wpQuiet_step (fun K1 hK1 => ?_))⟩
  · (obtain ⟨_, ⟨u0, u1⟩, u2, u3⟩ := hW; simp [go_sem, u0, u1])
  clear hK0 K0
  go_simp
  refine ⟨.string ⟨l1.toArray⟩, fun W hW => ?_, hK1 _ (wpQuiet_step (fun K0 hK0 => ?_))⟩
  · exact (PA.out W).mono fun e w4 ⟨he, hb⟩ => ⟨he, HR.step hW hb⟩
  clear hK1 K1
  go_simp
  first | (with_reducible refine hK0 _ (wpQuiet_step (fun K1 hK1 => ?_))) | (with_reducible refine ⟨_, fun _ _ => rfl, hK0 _ (wpQuiet_step (fun K1 hK1 => ?_))⟩) | (rw [if_neg (by intro e; cases e)]; with_reducible refine hK0 _ (wpQuiet_step (fun K1 hK1 => ?_)))
  clear hK0 K0
  go_simp
  first | (with_reducible refine hK1 _ (wpQuiet_step (fun K0 hK0 => ?_))) | (with_reducible refine ⟨_, fun _ _ => rfl, hK1 _ (wpQuiet_step (fun K0 hK0 => ?_))⟩) | (rw [if_neg (by intro e; cases e)]; with_reducible refine hK1 _ (wpQuiet_step (fun K0 hK0 => ?_)))
  clear hK1 K1
  go_simp
  first | (with_reducible refine hK0 _ (wpQuiet_step (fun K1 hK1 => ?_))) | (with_reducible refine ⟨_, fun _ _ => rfl, hK0 _ (wpQuiet_step (fun K1 hK1 => ?_))⟩) | (rw [if_neg (by intro e; cases e)]; with_reducible refine hK0 _ (wpQuiet_step (fun K1 hK1 => ?_)))
  clear hK0 K0
  go_simp
  refine ⟨A a, fun W hW => ?_, hK1 _ (wpQuiet_step (fun K0 hK0 => ?_))⟩
  · (obtain ⟨_, ⟨u0, u1⟩, u2, u3⟩ := hW; simp [go_sem, u0, u1])
  clear hK1 K1
  go_simp
  refine ⟨.string ⟨l1.toArray⟩, fun W hW => ?_, hK0 _ (wpQuiet_step (fun K1 hK1 => ?_))⟩
  · exact (PA.out W).mono fun e w4 ⟨he, hb⟩ => ⟨he, HR.step hW hb⟩
  clear hK0 K0
  go_simp
  refine ⟨A b, fun W hW => ?_, hK1 _ (wpQuiet_step (fun K0 hK0 => ?_))⟩
  · (obtain ⟨_, ⟨u0, u1⟩, u2, u3⟩ := hW; simp [go_sem, u2, u3])
  clear hK1 K1
  go_simp
  refine ⟨.string ⟨l2.toArray⟩, fun W hW => ?_, hK0 _ (wpQuiet_step (fun K1 hK1 => ?_))⟩
  · exact (PB.out W).mono fun e w4 ⟨he, hb⟩ => ⟨he, HR.step hW hb⟩
  clear hK0 K0
  go_simp
  first | (with_reducible refine hK1 _ (wpQuiet_step (fun K0 hK0 => ?_))) | (with_reducible refine ⟨_, fun _ _ => rfl, hK1 _ (wpQuiet_step (fun K0 hK0 => ?_))⟩) | (rw [if_neg (by intro e; cases e)]; with_reducible refine hK1 _ (wpQuiet_step (fun K0 hK0 => ?_)))
  clear hK1 K1
  go_simp
  first | (with_reducible refine hK0 _ (wpQuiet_step (fun K1 hK1 => ?_))) | (with_reducible refine ⟨_, fun _ _ => rfl, hK0 _ (wpQuiet_step (fun K1 hK1 => ?_))⟩) | (rw [if_neg (by intro e; cases e)]; with_reducible refine hK0 _ (wpQuiet_step (fun K1 hK1 => ?_)))
  clear hK0 K0
  go_simp
  first | (with_reducible refine hK1 _ (wpQuiet_step (fun K0 hK0 => ?_))) | (with_reducible refine ⟨_, fun _ _ => rfl, hK1 _ (wpQuiet_step (fun K0 hK0 => ?_))⟩) | (rw [if_neg (by intro e; cases e)]; with_reducible refine hK1 _ (wpQuiet_step (fun K0 hK0 => ?_)))
  clear hK1 K1
  go_simp
  first | (with_reducible refine hK0 _ (wpQuiet_step (fun K1 hK1 => ?_))) | (with_reducible refine ⟨_, fun _ _ => rfl, hK0 _ (wpQuiet_step (fun K1 hK1 => ?_))⟩) | (rw [if_neg (by intro e; cases e)]; with_reducible refine hK0 _ (wpQuiet_step (fun K1 hK1 => ?_)))
  clear hK0 K0
  go_simp
  first | (with_reducible refine hK1 _ (wpQuiet_step (fun K0 hK0 => ?_))) | (with_reducible refine ⟨_, fun _ _ => rfl, hK1 _ (wpQuiet_step (fun K0 hK0 => ?_))⟩) | (rw [if_neg (by intro e; cases e)]; with_reducible refine hK1 _ (wpQuiet_step (fun K0 hK0 => ?_)))
  clear hK1 K1
  go_simp
  first | (with_reducible refine hK0 _ (wpQuiet_step (fun K1 hK1 => ?_))) | (with_reducible refine ⟨_, fun _ _ => rfl, hK0 _ (wpQuiet_step (fun K1 hK1 => ?_))⟩) | (rw [if_neg (by intro e; cases e)]; with_reducible refine hK0 _ (wpQuiet_step (fun K1 hK1 => ?_)))
  clear hK0 K0
  go_simp
  refine ⟨.int .u64 (lo a : Nat), fun W hW => ?_, hK1 _ (wpQuiet_step (fun K0 hK0 => ?_))⟩
  · (obtain ⟨_, ⟨u0, u1⟩, u2, u3⟩ := hW; simp [go_sem, u1])
  clear hK1 K1
  go_simp
  refine ⟨.string ⟨l3.toArray⟩, fun W hW => ?_, hK0 _ (wpQuiet_step (fun K1 hK1 => ?_))⟩
  · exact (QA.out W).mono fun e w4 ⟨he, hb⟩ => ⟨he, HR.step hW hb⟩
  clear hK0 K0
  go_simp
  first | (with_reducible refine hK1 _ (wpQuiet_step (fun K0 hK0 => ?_))) | (with_reducible refine ⟨_, fun _ _ => rfl, hK1 _ (wpQuiet_step (fun K0 hK0 => ?_))⟩) | (rw [if_neg (by intro e; cases e)]; with_reducible refine hK1 _ (wpQuiet_step (fun K0 hK0 => ?_)))
  clear hK1 K1
  go_simp
  refine ⟨.int .u64 (lo b : Nat), fun W hW => ?_, hK0 _ (wpQuiet_step (fun K1 hK1 => ?_))⟩
  · (obtain ⟨_, ⟨u0, u1⟩, u2, u3⟩ := hW; simp [go_sem, u3])
  clear hK0 K0
  go_simp
  refine ⟨.string ⟨l4.toArray⟩, fun W hW => ?_, hK1 _ (wpQuiet_step (fun K0 hK0 => ?_))⟩
  · exact (QB.out W).mono fun e w4 ⟨he, hb⟩ => ⟨he, HR.step hW hb⟩
  clear hK1 K1
  go_simp
  first | (with_reducible refine hK0 _ (wpQuiet_step (fun K1 hK1 => ?_))) | (with_reducible refine ⟨_, fun _ _ => rfl, hK0 _ (wpQuiet_step (fun K1 hK1 => ?_))⟩) | (rw [if_neg (by intro e; cases e)]; with_reducible refine hK0 _ (wpQuiet_step (fun K1 hK1 => ?_)))
  clear hK0 K0
  go_simp
  first | (with_reducible refine hK1 _ (wpQuiet_step (fun K0 hK0 => ?_))) | (with_reducible refine ⟨_, fun _ _ => rfl, hK1 _ (wpQuiet_step (fun K0 hK0 => ?_))⟩) | (rw [if_neg (by intro e; cases e)]; with_reducible refine hK1 _ (wpQuiet_step (fun K0 hK0 => ?_)))
  clear hK1 K1
  go_simp
  refine ⟨.int .u64 (lo a : Nat), fun W hW => ?_, hK0 _ (wpQuiet_step (fun K1 hK1 => ?_))⟩
  · (obtain ⟨_, ⟨u0, u1⟩, u2, u3⟩ := hW; simp [go_sem, u1])
  clear hK0 K0
  go_simp
  first | (with_reducible refine hK1 _ (wpQuiet_step (fun K0 hK0 => ?_))) | (with_reducible refine ⟨_, fun _ _ => rfl, hK1 _ (wpQuiet_step (fun K0 hK0 => ?_))⟩) | (rw [if_neg (by intro e; cases e)]; with_reducible refine hK1 _ (wpQuiet_step (fun K0 hK0 => ?_)))
  clear hK1 K1
  go_simp
  refine ⟨.int .u64 (lo b : Nat), fun W hW => ?_, hK0 _ (wpQuiet_step (fun K1 hK1 => ?_))⟩
  · (obtain ⟨_, ⟨u0, u1⟩, u2, u3⟩ := hW; simp [go_sem, u3])
  clear hK0 K0
  go_simp
  first | (with_reducible refine hK1 _ (wpQuiet_step (fun K0 hK0 => ?_))) | (with_reducible refine ⟨_, fun _ _ => rfl, hK1 _ (wpQuiet_step (fun K0 hK0 => ?_))⟩) | (rw [if_neg (by intro e; cases e)]; with_reducible refine hK1 _ (wpQuiet_step (fun K0 hK0 => ?_)))
  clear hK1 K1
  go_simp
  first | (with_reducible refine hK0 _ (wpQuiet_step (fun K1 hK1 => ?_))) | (with_reducible refine ⟨_, fun _ _ => rfl, hK0 _ (wpQuiet_step (fun K1 hK1 => ?_))⟩) | (rw [if_neg (by intro e; cases e)]; with_reducible refine hK0 _ (wpQuiet_step (fun K1 hK1 => ?_)))
  clear hK0 K0
  go_simp
  first | (with_reducible refine hK1 _ (wpQuiet_step (fun K0 hK0 => ?_))) | (with_reducible refine ⟨_, fun _ _ => rfl, hK1 _ (wpQuiet_step (fun K0 hK0 => ?_))⟩) | (rw [if_neg (by intro e; cases e)]; with_reducible refine hK1 _ (wpQuiet_step (fun K0 hK0 => ?_)))
  clear hK1 K1
  go_simp
  first | (with_reducible refine hK0 _ (wpQuiet_nil ?_)) | (with_reducible refine ⟨_, fun _ _ => rfl, hK0 _ (wpQuiet_nil ?_)⟩) | (rw [if_neg (by intro e; cases e)]; with_reducible refine hK0 _ (wpQuiet_nil ?_))
  clear hK0 K0
  intro w2 H3
  go_wp2
  go_ret
  exact ⟨rfl, H3.1⟩

theorem rises_any {a b : Nat} (ha : Fits a) (hb : Fits b) (w : World) : Calls Try.prog 6 #[A a, A b] w (Gives (.bool true) w) := by
  rcases Nat.lt_trichotomy (hi a) (hi b) with h | h | h <;> by_cases l : lo a < lo b
  · exact rises_a1 ha hb h l w
  · exact rises_a2 ha hb h l w
  · exact rises_b1 ha hb h l w
  · exact rises_b2 ha hb h l w
  · exact rises_c1 ha hb h l w
  · exact rises_c2 ha hb h l w
end Go.Proofs.Ytnbdldnbfhdhdaa
