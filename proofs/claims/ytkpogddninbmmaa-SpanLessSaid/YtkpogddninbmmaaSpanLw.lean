/-
  The walk of the law SpanLess: it returns true. Conditions: the words are words of 64 bits (every value of the types is such).
-/
import Derived.Test.YtkpogddninbmmaaSpanLm
import Derived.Test.YtkpogddninbmmaaSpanPlD
namespace Go.Proofs.Ytkpogddninbmmaa
open Go.RowKit Go.Joins

/-- what the walk of SpanLess keeps -/
def Ls (w : World) (bs : List (Nat × Nat)) (vx vy vd vb : Value) (x y d b : List Rg) (W : World) : Prop := Bx w bs W ∧ Lst vx x W ∧ Lst vy y W ∧ Lst vd d W ∧ Lst vb b W
theorem Ls.step {w : World} {bs : List (Nat × Nat)} {vx vy vd vb : Value} {x y d b : List Rg} {W w2 : World} (h : Ls w bs vx vy vd vb x y d b W) (hb : Below W.heap.size W w2) : Ls w bs vx vy vd vb x y d b w2 := ⟨h.1.step hb, h.2.1.step hb, h.2.2.1.step hb, h.2.2.2.1.step hb, h.2.2.2.2.step hb⟩
theorem Ls.drew {w : World} {bs : List (Nat × Nat)} {vx vy vd vb : Value} {x y d b : List Rg} {W : World} (h : Ls w bs vx vy vd vb x y d b W) : Ls w bs vx vy vd vb x y d b { W with drawn := W.drawn + 1 } := h.step (Below.refl _ _).drew
theorem Ls.new {w : World} {bs : List (Nat × Nat)} {vx vy vd vb : Value} {x y d b : List Rg} {W : World} (h : Ls w bs vx vy vd vb x y d b W) (a : Nat) : Ls w ((W.heap.size, a) :: bs) vx vy vd vb x y d b (W.alloc (.cells #[.int .u64 (hi a : Nat), .int .u64 (lo a : Nat)] 25)) :=
  ⟨h.1.new a, (h.step (below_alloc _ _)).2⟩

set_option maxRecDepth 100000 in
set_option maxHeartbeats 4000000 in
theorem lesslaw_walk {v u : Value} {l m x y d b : List Rg} {a n p q : Nat} {on op oq os hx hy : Bool} (w : World) (hv : Lst v l w) (hu : Lst u m w)
    (BX : Hid (∀ W, Lst v l W → Calls Try.prog 28 #[v] W (Reads x W)))
    (BY : Hid (∀ W, Lst u m W → Calls Try.prog 28 #[u] W (Reads y W)))
    (L1 : Hid (∀ W s t, Lst s x W → Lst t y W → Calls Try.prog 18 #[s, t] W (PutGives d W)))
    (L2 : Hid (∀ W s t, Lst s x W → Lst t x W → Calls Try.prog 18 #[s, t] W (PutGives [] W)))
    (CX : Hid (∀ W s, Lst s x W → Calls Try.prog 20 #[s] W (Gives (.tuple #[A n, .bool on]) W)))
    (CD : Hid (∀ W s, Lst s d W → Calls Try.prog 20 #[s] W (Gives (.tuple #[A p, .bool op]) W)))
    (CB : Hid (∀ W s, Lst s b W → Calls Try.prog 20 #[s] W (Gives (.tuple #[A q, .bool oq]) W)))
    (AD : Hid (∀ W, Calls Try.prog 30 #[A p, A q] W (Gives (.tuple #[A n, .bool os]) W)))
    (SD : Hid (∀ W s, Lst s d W → Calls Try.prog 14 #[s] W (Gives (.bool true) W)))
    (SB : Hid (∀ W s, Lst s b W → Calls Try.prog 14 #[s] W (Gives (.bool true) W)))
    (HX : Hid (∀ W s, Lst s x W → Calls Try.prog 24 #[s, A a] W (Gives (.bool hx) W)))
    (HY : Hid (∀ W s, Lst s y W → Calls Try.prog 24 #[s, A a] W (Gives (.bool hy) W)))
    (HD : Hid (∀ W s, Lst s d W → Calls Try.prog 24 #[s, A a] W (Gives (.bool (hx && !hy)) W)))
    (HB : Hid (∀ W s, Lst s b W → Calls Try.prog 24 #[s, A a] W (Gives (.bool (hx && hy)) W)))
    (L3 : Hid (∀ W s t, Lst s x W → Lst t d W → Calls Try.prog 18 #[s, t] W (PutGives b W))) :
    Calls Try.prog 8 #[v, u, A a] w (Gives (.bool true) w) := by
  have AW := hide (fun W => awake_any W)
  have X0 := (bx_nil w).new a
  have V0 := hv.step X0.1
  have U0 := hu.step X0.1
  obtain ⟨p1, c1, rfl⟩ := lst_len hv
  obtain ⟨p2, c2, rfl⟩ := lst_len hu
  go_enter Try.func8, Try.ntmps8
  go_wp2_with fail
  refine (AW.out _).mono ?_
  rintro e w1 ⟨rfl, hb⟩
  have X1 := X0.step hb
  have V1 := V0.step hb
  have U1 := U0.step hb
  clear hb X0 V0 U0
  go_wp2_with fail
  refine (BX.out _ V1).mono ?_
  rintro e w2 ⟨vx, rfl, hb, x2⟩
  have X2 := X1.step hb
  have U2 := U1.step hb
  clear hb X1 V1 U1
  go_wp2_with fail
  refine (BY.out _ U2).mono ?_
  rintro e w3 ⟨vy, rfl, hb, y3⟩
  have X3 := X2.step hb
  have x3 := x2.step hb
  clear hb X2 U2 x2
  go_wp2_with fail
  refine (L1.out _ _ _ x3 y3).mono ?_
  rintro e w4 ⟨vd, rfl, hb, ho⟩
  have X4 := X3.step hb
  have x4 := x3.step hb
  have d4 := own_lst ho
  have y4 := y3.step hb
  clear hb X3 x3 y3 ho
  go_wp2_with fail
  refine (L2.out _ _ _ x4 x4).mono ?_
  rintro e w5 ⟨vn, rfl, hb, ho⟩
  have X5 := X4.step hb
  have x5 := x4.step hb
  have d5 := d4.step hb
  obtain ⟨pn, cn, rfl⟩ := lst_len (own_lst ho)
  have y5 := y4.step hb
  clear hb X4 x4 d4 y4 ho
  go_wp2_with fail
  refine (L3.out _ _ _ x5 d5).mono ?_
  rintro e w6 ⟨vb, rfl, hb, ho⟩
  have X6 := X5.step hb
  have x6 := x5.step hb
  have d6 := d5.step hb
  have b6 := own_lst ho
  have y6 := y5.step hb
  clear hb X5 x5 d5 y5 ho
  go_wp2_with fail
  have F : Ls w [(w.heap.size, a)] vx vy vd vb x y d b _ := ⟨X6, x6, y6, d6, b6⟩
  clear X6 x6 y6 d6 b6
  refine (SD.out _ _ F.2.2.2.1).mono ?_
  rintro e w7 ⟨rfl, hb⟩
  replace F := F.step hb
  clear hb
  go_wp2_with fail
  refine (SB.out _ _ F.2.2.2.2).mono ?_
  rintro e w8 ⟨rfl, hb⟩
  replace F := F.step hb
  clear hb
  go_wp2_with fail
  refine (CX.out _ _ F.2.1).mono ?_
  rintro e w9 ⟨rfl, hb⟩
  replace F := (F.step hb).new n
  clear hb
  go_wp2_with fail
  refine (CD.out _ _ F.2.2.2.1).mono ?_
  rintro e wa ⟨rfl, hb⟩
  generalize w9.heap.size = g1 at F ⊢
  replace F := (F.step hb).new p
  clear hb
  go_wp2_with fail
  refine (CB.out _ _ F.2.2.2.2).mono ?_
  rintro e wb ⟨rfl, hb⟩
  generalize wa.heap.size = g2 at F ⊢
  replace F := (F.step hb).new q
  clear hb
  obtain ⟨⟨q0, q1, q2, q3, q4⟩, ⟨r0, r1, r2, r3, r4⟩, _⟩ := bx_three F.1
  go_wp2_with fail
  clear q0 q1 q2 q3 q4 r0 r1 r2 r3 r4
  refine (AD.out _).mono ?_
  rintro e wc ⟨rfl, hb⟩
  generalize wb.heap.size = g3 at F ⊢
  replace F := (F.step hb).new n
  clear hb
  go_wp2_with fail
  generalize wc.heap.size = g4 at F ⊢
  cases hx with
  | false =>
    refine wp_region_quiet (C := Ls w [(g4, n), (g3, q), (g2, p), (g1, n), (w.heap.size, a)] vx vy vd vb x y d b) (by kernel_rfl) (by kernel_rfl) (show Ls w [(g4, n), (g3, q), (g2, p), (g1, n), (w.heap.size, a)] vx vy vd vb x y d b _ from F).drew (wpQuiet_step (fun K0 hK0 => ?_))
    go_simp
    refine ⟨A n, fun W hW => ?_, hK0 _ (wpQuiet_step (fun K1 hK1 => ?_))⟩
    · ((obtain ⟨_, c1, c2, _⟩ := hW.1.2 (g4, n) (by simp); simp [go_sem, c1, c2]))
    clear hK0 K0
    go_simp
    refine ⟨A n, fun W hW => ?_, hK1 _ (wpQuiet_step (fun K0 hK0 => ?_))⟩
    · ((obtain ⟨_, c1, c2, _⟩ := hW.1.2 (g1, n) (by simp); simp [go_sem, c1, c2]))
    clear hK1 K1
    go_simp
    first | (with_reducible refine hK0 _ (wpQuiet_step (fun K1 hK1 => ?_))) | (with_reducible refine ⟨_, fun _ _ => rfl, hK0 _ (wpQuiet_step (fun K1 hK1 => ?_))⟩) | (rw [if_neg (by intro e; cases e)]; with_reducible refine hK0 _ (wpQuiet_step (fun K1 hK1 => ?_)))
    clear hK0 K0
    go_simp
    first | (with_reducible refine hK1 _ (wpQuiet_step (fun K0 hK0 => ?_))) | (with_reducible refine ⟨_, fun _ _ => rfl, hK1 _ (wpQuiet_step (fun K0 hK0 => ?_))⟩) | (rw [if_neg (by intro e; cases e)]; with_reducible refine hK1 _ (wpQuiet_step (fun K0 hK0 => ?_)))
    clear hK1 K1
    go_simp
    first | (with_reducible refine hK0 _ (wpQuiet_step (fun K1 hK1 => ?_))) | (with_reducible refine ⟨_, fun _ _ => rfl, hK0 _ (wpQuiet_step (fun K1 hK1 => ?_))⟩) | (rw [if_neg (by intro e; cases e)]; with_reducible refine hK0 _ (wpQuiet_step (fun K1 hK1 => ?_)))
    clear hK0 K0
    go_simp
    refine ⟨A a, fun W hW => ?_, hK1 _ (wpQuiet_step (fun K0 hK0 => ?_))⟩
    · ((obtain ⟨_, c1, c2, _⟩ := hW.1.2 (w.heap.size, a) (by simp); simp [go_sem, c1, c2]))
    clear hK1 K1
    go_simp
    refine ⟨.bool false, fun W hW => ?_, hK0 _ (wpQuiet_step (fun K1 hK1 => ?_))⟩
    · exact (HD.out W _ hW.2.2.2.1).mono fun e w2 ⟨he, hb⟩ => ⟨he, Ls.step hW hb⟩
    clear hK0 K0
    go_simp
    first | (with_reducible refine hK1 _ (wpQuiet_step (fun K0 hK0 => ?_))) | (with_reducible refine ⟨_, fun _ _ => rfl, hK1 _ (wpQuiet_step (fun K0 hK0 => ?_))⟩) | (rw [if_neg (by intro e; cases e)]; with_reducible refine hK1 _ (wpQuiet_step (fun K0 hK0 => ?_)))
    clear hK1 K1
    go_simp
    refine ⟨A a, fun W hW => ?_, hK0 _ (wpQuiet_step (fun K1 hK1 => ?_))⟩
    · ((obtain ⟨_, c1, c2, _⟩ := hW.1.2 (w.heap.size, a) (by simp); simp [go_sem, c1, c2]))
    clear hK0 K0
    go_simp
    refine ⟨.bool false, fun W hW => ?_, hK1 _ (wpQuiet_step (fun K0 hK0 => ?_))⟩
    · exact (HX.out W _ hW.2.1).mono fun e w2 ⟨he, hb⟩ => ⟨he, Ls.step hW hb⟩
    clear hK1 K1
    go_simp
    first | (with_reducible refine hK0 _ (wpQuiet_step (fun K1 hK1 => ?_))) | (with_reducible refine ⟨_, fun _ _ => rfl, hK0 _ (wpQuiet_step (fun K1 hK1 => ?_))⟩) | (rw [if_neg (by intro e; cases e)]; with_reducible refine hK0 _ (wpQuiet_step (fun K1 hK1 => ?_)))
    clear hK0 K0
    go_simp
    first | (with_reducible refine hK1 _ (wpQuiet_step (fun K0 hK0 => ?_))) | (with_reducible refine ⟨_, fun _ _ => rfl, hK1 _ (wpQuiet_step (fun K0 hK0 => ?_))⟩) | (rw [if_neg (by intro e; cases e)]; with_reducible refine hK1 _ (wpQuiet_step (fun K0 hK0 => ?_)))
    clear hK1 K1
    go_simp
    first | (with_reducible refine hK0 _ (wpQuiet_step (fun K1 hK1 => ?_))) | (with_reducible refine ⟨_, fun _ _ => rfl, hK0 _ (wpQuiet_step (fun K1 hK1 => ?_))⟩) | (rw [if_neg (by intro e; cases e)]; with_reducible refine hK0 _ (wpQuiet_step (fun K1 hK1 => ?_)))
    clear hK0 K0
    go_simp
    first | (with_reducible refine hK1 _ (wpQuiet_step (fun K0 hK0 => ?_))) | (with_reducible refine ⟨_, fun _ _ => rfl, hK1 _ (wpQuiet_step (fun K0 hK0 => ?_))⟩) | (rw [if_neg (by intro e; cases e)]; with_reducible refine hK1 _ (wpQuiet_step (fun K0 hK0 => ?_)))
    clear hK1 K1
    go_simp
    first | (with_reducible refine hK0 _ (wpQuiet_step (fun K1 hK1 => ?_))) | (with_reducible refine ⟨_, fun _ _ => rfl, hK0 _ (wpQuiet_step (fun K1 hK1 => ?_))⟩) | (rw [if_neg (by intro e; cases e)]; with_reducible refine hK0 _ (wpQuiet_step (fun K1 hK1 => ?_)))
    clear hK0 K0
    go_simp
    first | (with_reducible refine hK1 _ (wpQuiet_step (fun K0 hK0 => ?_))) | (with_reducible refine ⟨_, fun _ _ => rfl, hK1 _ (wpQuiet_step (fun K0 hK0 => ?_))⟩) | (rw [if_neg (by intro e; cases e)]; with_reducible refine hK1 _ (wpQuiet_step (fun K0 hK0 => ?_)))
    clear hK1 K1
    go_simp
    first | (with_reducible refine hK0 _ (wpQuiet_step (fun K1 hK1 => ?_))) | (with_reducible refine ⟨_, fun _ _ => rfl, hK0 _ (wpQuiet_step (fun K1 hK1 => ?_))⟩) | (rw [if_neg (by intro e; cases e)]; with_reducible refine hK0 _ (wpQuiet_step (fun K1 hK1 => ?_)))
    clear hK0 K0
    go_simp
    first | (with_reducible refine hK1 _ (wpQuiet_step (fun K0 hK0 => ?_))) | (with_reducible refine ⟨_, fun _ _ => rfl, hK1 _ (wpQuiet_step (fun K0 hK0 => ?_))⟩) | (rw [if_neg (by intro e; cases e)]; with_reducible refine hK1 _ (wpQuiet_step (fun K0 hK0 => ?_)))
    clear hK1 K1
    go_simp
    first | (with_reducible refine hK0 _ (wpQuiet_step (fun K1 hK1 => ?_))) | (with_reducible refine ⟨_, fun _ _ => rfl, hK0 _ (wpQuiet_step (fun K1 hK1 => ?_))⟩) | (rw [if_neg (by intro e; cases e)]; with_reducible refine hK0 _ (wpQuiet_step (fun K1 hK1 => ?_)))
    clear hK0 K0
    go_simp
    first | (with_reducible refine hK1 _ (wpQuiet_step (fun K0 hK0 => ?_))) | (with_reducible refine ⟨_, fun _ _ => rfl, hK1 _ (wpQuiet_step (fun K0 hK0 => ?_))⟩) | (rw [if_neg (by intro e; cases e)]; with_reducible refine hK1 _ (wpQuiet_step (fun K0 hK0 => ?_)))
    clear hK1 K1
    go_simp
    refine ⟨A a, fun W hW => ?_, hK0 _ (wpQuiet_step (fun K1 hK1 => ?_))⟩
    · ((obtain ⟨_, c1, c2, _⟩ := hW.1.2 (w.heap.size, a) (by simp); simp [go_sem, c1, c2]))
    clear hK0 K0
    go_simp
    refine ⟨.bool false, fun W hW => ?_, hK1 _ (wpQuiet_step (fun K0 hK0 => ?_))⟩
    · exact (HB.out W _ hW.2.2.2.2).mono fun e w2 ⟨he, hb⟩ => ⟨he, Ls.step hW hb⟩
    clear hK1 K1
    go_simp
    first | (with_reducible refine hK0 _ (wpQuiet_step (fun K1 hK1 => ?_))) | (with_reducible refine ⟨_, fun _ _ => rfl, hK0 _ (wpQuiet_step (fun K1 hK1 => ?_))⟩) | (rw [if_neg (by intro e; cases e)]; with_reducible refine hK0 _ (wpQuiet_step (fun K1 hK1 => ?_)))
    clear hK0 K0
    go_simp
    refine ⟨A a, fun W hW => ?_, hK1 _ (wpQuiet_step (fun K0 hK0 => ?_))⟩
    · ((obtain ⟨_, c1, c2, _⟩ := hW.1.2 (w.heap.size, a) (by simp); simp [go_sem, c1, c2]))
    clear hK1 K1
    go_simp
    refine ⟨.bool false, fun W hW => ?_, hK0 _ (wpQuiet_step (fun K1 hK1 => ?_))⟩
    · exact (HX.out W _ hW.2.1).mono fun e w2 ⟨he, hb⟩ => ⟨he, Ls.step hW hb⟩
    clear hK0 K0
    go_simp
    first | (with_reducible refine hK1 _ (wpQuiet_step (fun K0 hK0 => ?_))) | (with_reducible refine ⟨_, fun _ _ => rfl, hK1 _ (wpQuiet_step (fun K0 hK0 => ?_))⟩) | (rw [if_neg (by intro e; cases e)]; with_reducible refine hK1 _ (wpQuiet_step (fun K0 hK0 => ?_)))
    clear hK1 K1
    go_simp
    first | (with_reducible refine hK0 _ (wpQuiet_step (fun K1 hK1 => ?_))) | (with_reducible refine ⟨_, fun _ _ => rfl, hK0 _ (wpQuiet_step (fun K1 hK1 => ?_))⟩) | (rw [if_neg (by intro e; cases e)]; with_reducible refine hK0 _ (wpQuiet_step (fun K1 hK1 => ?_)))
    clear hK0 K0
    go_simp
    first | (with_reducible refine hK1 _ (wpQuiet_step (fun K0 hK0 => ?_))) | (with_reducible refine ⟨_, fun _ _ => rfl, hK1 _ (wpQuiet_step (fun K0 hK0 => ?_))⟩) | (rw [if_neg (by intro e; cases e)]; with_reducible refine hK1 _ (wpQuiet_step (fun K0 hK0 => ?_)))
    clear hK1 K1
    go_simp
    first | (with_reducible refine hK0 _ (wpQuiet_step (fun K1 hK1 => ?_))) | (with_reducible refine ⟨_, fun _ _ => rfl, hK0 _ (wpQuiet_step (fun K1 hK1 => ?_))⟩) | (rw [if_neg (by intro e; cases e)]; with_reducible refine hK0 _ (wpQuiet_step (fun K1 hK1 => ?_)))
    clear hK0 K0
    go_simp
    first | (with_reducible refine hK1 _ (wpQuiet_step (fun K0 hK0 => ?_))) | (with_reducible refine ⟨_, fun _ _ => rfl, hK1 _ (wpQuiet_step (fun K0 hK0 => ?_))⟩) | (rw [if_neg (by intro e; cases e)]; with_reducible refine hK1 _ (wpQuiet_step (fun K0 hK0 => ?_)))
    clear hK1 K1
    go_simp
    first | (with_reducible refine hK0 _ (wpQuiet_step (fun K1 hK1 => ?_))) | (with_reducible refine ⟨_, fun _ _ => rfl, hK0 _ (wpQuiet_step (fun K1 hK1 => ?_))⟩) | (rw [if_neg (by intro e; cases e)]; with_reducible refine hK0 _ (wpQuiet_step (fun K1 hK1 => ?_)))
    clear hK0 K0
    go_simp
    first | (with_reducible refine hK1 _ (wpQuiet_step (fun K0 hK0 => ?_))) | (with_reducible refine ⟨_, fun _ _ => rfl, hK1 _ (wpQuiet_step (fun K0 hK0 => ?_))⟩) | (rw [if_neg (by intro e; cases e)]; with_reducible refine hK1 _ (wpQuiet_step (fun K0 hK0 => ?_)))
    clear hK1 K1
    go_simp
    first | (with_reducible refine hK0 _ (wpQuiet_nil ?_)) | (with_reducible refine ⟨_, fun _ _ => rfl, hK0 _ (wpQuiet_nil ?_)⟩) | (rw [if_neg (by intro e; cases e)]; with_reducible refine hK0 _ (wpQuiet_nil ?_))
    clear hK0 K0
    intro wz FZ
    go_wp2
    go_ret
    exact ⟨rfl, FZ.1.1⟩
  | true =>
    cases hy with
    | false =>
      refine wp_region_quiet (C := Ls w [(g4, n), (g3, q), (g2, p), (g1, n), (w.heap.size, a)] vx vy vd vb x y d b) (by kernel_rfl) (by kernel_rfl) (show Ls w [(g4, n), (g3, q), (g2, p), (g1, n), (w.heap.size, a)] vx vy vd vb x y d b _ from F).drew (wpQuiet_step (fun K0 hK0 => ?_))
      go_simp
      refine ⟨A n, fun W hW => ?_, hK0 _ (wpQuiet_step (fun K1 hK1 => ?_))⟩
      · ((obtain ⟨_, c1, c2, _⟩ := hW.1.2 (g4, n) (by simp); simp [go_sem, c1, c2]))
      clear hK0 K0
      go_simp
      refine ⟨A n, fun W hW => ?_, hK1 _ (wpQuiet_step (fun K0 hK0 => ?_))⟩
      · ((obtain ⟨_, c1, c2, _⟩ := hW.1.2 (g1, n) (by simp); simp [go_sem, c1, c2]))
      clear hK1 K1
      go_simp
      first | (with_reducible refine hK0 _ (wpQuiet_step (fun K1 hK1 => ?_))) | (with_reducible refine ⟨_, fun _ _ => rfl, hK0 _ (wpQuiet_step (fun K1 hK1 => ?_))⟩) | (rw [if_neg (by intro e; cases e)]; with_reducible refine hK0 _ (wpQuiet_step (fun K1 hK1 => ?_)))
      clear hK0 K0
      go_simp
      first | (with_reducible refine hK1 _ (wpQuiet_step (fun K0 hK0 => ?_))) | (with_reducible refine ⟨_, fun _ _ => rfl, hK1 _ (wpQuiet_step (fun K0 hK0 => ?_))⟩) | (rw [if_neg (by intro e; cases e)]; with_reducible refine hK1 _ (wpQuiet_step (fun K0 hK0 => ?_)))
      clear hK1 K1
      go_simp
      first | (with_reducible refine hK0 _ (wpQuiet_step (fun K1 hK1 => ?_))) | (with_reducible refine ⟨_, fun _ _ => rfl, hK0 _ (wpQuiet_step (fun K1 hK1 => ?_))⟩) | (rw [if_neg (by intro e; cases e)]; with_reducible refine hK0 _ (wpQuiet_step (fun K1 hK1 => ?_)))
      clear hK0 K0
      go_simp
      refine ⟨A a, fun W hW => ?_, hK1 _ (wpQuiet_step (fun K0 hK0 => ?_))⟩
      · ((obtain ⟨_, c1, c2, _⟩ := hW.1.2 (w.heap.size, a) (by simp); simp [go_sem, c1, c2]))
      clear hK1 K1
      go_simp
      refine ⟨.bool true, fun W hW => ?_, hK0 _ (wpQuiet_step (fun K1 hK1 => ?_))⟩
      · exact (HD.out W _ hW.2.2.2.1).mono fun e w2 ⟨he, hb⟩ => ⟨he, Ls.step hW hb⟩
      clear hK0 K0
      go_simp
      first | (with_reducible refine hK1 _ (wpQuiet_step (fun K0 hK0 => ?_))) | (with_reducible refine ⟨_, fun _ _ => rfl, hK1 _ (wpQuiet_step (fun K0 hK0 => ?_))⟩) | (rw [if_neg (by intro e; cases e)]; with_reducible refine hK1 _ (wpQuiet_step (fun K0 hK0 => ?_)))
      clear hK1 K1
      go_simp
      refine ⟨A a, fun W hW => ?_, hK0 _ (wpQuiet_step (fun K1 hK1 => ?_))⟩
      · ((obtain ⟨_, c1, c2, _⟩ := hW.1.2 (w.heap.size, a) (by simp); simp [go_sem, c1, c2]))
      clear hK0 K0
      go_simp
      refine ⟨.bool true, fun W hW => ?_, hK1 _ (wpQuiet_step (fun K0 hK0 => ?_))⟩
      · exact (HX.out W _ hW.2.1).mono fun e w2 ⟨he, hb⟩ => ⟨he, Ls.step hW hb⟩
      clear hK1 K1
      go_simp
      first | (with_reducible refine hK0 _ (wpQuiet_step (fun K1 hK1 => ?_))) | (with_reducible refine ⟨_, fun _ _ => rfl, hK0 _ (wpQuiet_step (fun K1 hK1 => ?_))⟩) | (rw [if_neg (by intro e; cases e)]; with_reducible refine hK0 _ (wpQuiet_step (fun K1 hK1 => ?_)))
      clear hK0 K0
      go_simp
      first | (with_reducible refine hK1 _ (wpQuiet_step (fun K0 hK0 => ?_))) | (with_reducible refine ⟨_, fun _ _ => rfl, hK1 _ (wpQuiet_step (fun K0 hK0 => ?_))⟩) | (rw [if_neg (by intro e; cases e)]; with_reducible refine hK1 _ (wpQuiet_step (fun K0 hK0 => ?_)))
      clear hK1 K1
      go_simp
      refine ⟨A a, fun W hW => ?_, hK0 _ (wpQuiet_step (fun K1 hK1 => ?_))⟩
      · ((obtain ⟨_, c1, c2, _⟩ := hW.1.2 (w.heap.size, a) (by simp); simp [go_sem, c1, c2]))
      clear hK0 K0
      go_simp
      refine ⟨.bool false, fun W hW => ?_, hK1 _ (wpQuiet_step (fun K0 hK0 => ?_))⟩
      · exact (HY.out W _ hW.2.2.1).mono fun e w2 ⟨he, hb⟩ => ⟨he, Ls.step hW hb⟩
      clear hK1 K1
      go_simp
      first | (with_reducible refine hK0 _ (wpQuiet_step (fun K1 hK1 => ?_))) | (with_reducible refine ⟨_, fun _ _ => rfl, hK0 _ (wpQuiet_step (fun K1 hK1 => ?_))⟩) | (rw [if_neg (by intro e; cases e)]; with_reducible refine hK0 _ (wpQuiet_step (fun K1 hK1 => ?_)))
      clear hK0 K0
      go_simp
      first | (with_reducible refine hK1 _ (wpQuiet_step (fun K0 hK0 => ?_))) | (with_reducible refine ⟨_, fun _ _ => rfl, hK1 _ (wpQuiet_step (fun K0 hK0 => ?_))⟩) | (rw [if_neg (by intro e; cases e)]; with_reducible refine hK1 _ (wpQuiet_step (fun K0 hK0 => ?_)))
      clear hK1 K1
      go_simp
      first | (with_reducible refine hK0 _ (wpQuiet_step (fun K1 hK1 => ?_))) | (with_reducible refine ⟨_, fun _ _ => rfl, hK0 _ (wpQuiet_step (fun K1 hK1 => ?_))⟩) | (rw [if_neg (by intro e; cases e)]; with_reducible refine hK0 _ (wpQuiet_step (fun K1 hK1 => ?_)))
      clear hK0 K0
      go_simp
      first | (with_reducible refine hK1 _ (wpQuiet_step (fun K0 hK0 => ?_))) | (with_reducible refine ⟨_, fun _ _ => rfl, hK1 _ (wpQuiet_step (fun K0 hK0 => ?_))⟩) | (rw [if_neg (by intro e; cases e)]; with_reducible refine hK1 _ (wpQuiet_step (fun K0 hK0 => ?_)))
      clear hK1 K1
      go_simp
      first | (with_reducible refine hK0 _ (wpQuiet_step (fun K1 hK1 => ?_))) | (with_reducible refine ⟨_, fun _ _ => rfl, hK0 _ (wpQuiet_step (fun K1 hK1 => ?_))⟩) | (rw [if_neg (by intro e; cases e)]; with_reducible refine hK0 _ (wpQuiet_step (fun K1 hK1 => ?_)))
      clear hK0 K0
      go_simp
      first | (with_reducible refine hK1 _ (wpQuiet_step (fun K0 hK0 => ?_))) | (with_reducible refine ⟨_, fun _ _ => rfl, hK1 _ (wpQuiet_step (fun K0 hK0 => ?_))⟩) | (rw [if_neg (by intro e; cases e)]; with_reducible refine hK1 _ (wpQuiet_step (fun K0 hK0 => ?_)))
      clear hK1 K1
      go_simp
      refine ⟨A a, fun W hW => ?_, hK0 _ (wpQuiet_step (fun K1 hK1 => ?_))⟩
      · ((obtain ⟨_, c1, c2, _⟩ := hW.1.2 (w.heap.size, a) (by simp); simp [go_sem, c1, c2]))
      clear hK0 K0
      go_simp
      refine ⟨.bool false, fun W hW => ?_, hK1 _ (wpQuiet_step (fun K0 hK0 => ?_))⟩
      · exact (HB.out W _ hW.2.2.2.2).mono fun e w2 ⟨he, hb⟩ => ⟨he, Ls.step hW hb⟩
      clear hK1 K1
      go_simp
      first | (with_reducible refine hK0 _ (wpQuiet_step (fun K1 hK1 => ?_))) | (with_reducible refine ⟨_, fun _ _ => rfl, hK0 _ (wpQuiet_step (fun K1 hK1 => ?_))⟩) | (rw [if_neg (by intro e; cases e)]; with_reducible refine hK0 _ (wpQuiet_step (fun K1 hK1 => ?_)))
      clear hK0 K0
      go_simp
      refine ⟨A a, fun W hW => ?_, hK1 _ (wpQuiet_step (fun K0 hK0 => ?_))⟩
      · ((obtain ⟨_, c1, c2, _⟩ := hW.1.2 (w.heap.size, a) (by simp); simp [go_sem, c1, c2]))
      clear hK1 K1
      go_simp
      refine ⟨.bool true, fun W hW => ?_, hK0 _ (wpQuiet_step (fun K1 hK1 => ?_))⟩
      · exact (HX.out W _ hW.2.1).mono fun e w2 ⟨he, hb⟩ => ⟨he, Ls.step hW hb⟩
      clear hK0 K0
      go_simp
      first | (with_reducible refine hK1 _ (wpQuiet_step (fun K0 hK0 => ?_))) | (with_reducible refine ⟨_, fun _ _ => rfl, hK1 _ (wpQuiet_step (fun K0 hK0 => ?_))⟩) | (rw [if_neg (by intro e; cases e)]; with_reducible refine hK1 _ (wpQuiet_step (fun K0 hK0 => ?_)))
      clear hK1 K1
      go_simp
      first | (with_reducible refine hK0 _ (wpQuiet_step (fun K1 hK1 => ?_))) | (with_reducible refine ⟨_, fun _ _ => rfl, hK0 _ (wpQuiet_step (fun K1 hK1 => ?_))⟩) | (rw [if_neg (by intro e; cases e)]; with_reducible refine hK0 _ (wpQuiet_step (fun K1 hK1 => ?_)))
      clear hK0 K0
      go_simp
      refine ⟨A a, fun W hW => ?_, hK1 _ (wpQuiet_step (fun K0 hK0 => ?_))⟩
      · ((obtain ⟨_, c1, c2, _⟩ := hW.1.2 (w.heap.size, a) (by simp); simp [go_sem, c1, c2]))
      clear hK1 K1
      go_simp
      refine ⟨.bool false, fun W hW => ?_, hK0 _ (wpQuiet_step (fun K1 hK1 => ?_))⟩
      · exact (HY.out W _ hW.2.2.1).mono fun e w2 ⟨he, hb⟩ => ⟨he, Ls.step hW hb⟩
      clear hK0 K0
      go_simp
      first | (with_reducible refine hK1 _ (wpQuiet_step (fun K0 hK0 => ?_))) | (with_reducible refine ⟨_, fun _ _ => rfl, hK1 _ (wpQuiet_step (fun K0 hK0 => ?_))⟩) | (rw [if_neg (by intro e; cases e)]; with_reducible refine hK1 _ (wpQuiet_step (fun K0 hK0 => ?_)))
      clear hK1 K1
      go_simp
      first | (with_reducible refine hK0 _ (wpQuiet_step (fun K1 hK1 => ?_))) | (with_reducible refine ⟨_, fun _ _ => rfl, hK0 _ (wpQuiet_step (fun K1 hK1 => ?_))⟩) | (rw [if_neg (by intro e; cases e)]; with_reducible refine hK0 _ (wpQuiet_step (fun K1 hK1 => ?_)))
      clear hK0 K0
      go_simp
      first | (with_reducible refine hK1 _ (wpQuiet_step (fun K0 hK0 => ?_))) | (with_reducible refine ⟨_, fun _ _ => rfl, hK1 _ (wpQuiet_step (fun K0 hK0 => ?_))⟩) | (rw [if_neg (by intro e; cases e)]; with_reducible refine hK1 _ (wpQuiet_step (fun K0 hK0 => ?_)))
      clear hK1 K1
      go_simp
      first | (with_reducible refine hK0 _ (wpQuiet_nil ?_)) | (with_reducible refine ⟨_, fun _ _ => rfl, hK0 _ (wpQuiet_nil ?_)⟩) | (rw [if_neg (by intro e; cases e)]; with_reducible refine hK0 _ (wpQuiet_nil ?_))
      clear hK0 K0
      intro wz FZ
      go_wp2
      go_ret
      exact ⟨rfl, FZ.1.1⟩
    | true =>
      refine wp_region_quiet (C := Ls w [(g4, n), (g3, q), (g2, p), (g1, n), (w.heap.size, a)] vx vy vd vb x y d b) (by kernel_rfl) (by kernel_rfl) (show Ls w [(g4, n), (g3, q), (g2, p), (g1, n), (w.heap.size, a)] vx vy vd vb x y d b _ from F).drew (wpQuiet_step (fun K0 hK0 => ?_))
      go_simp
      refine ⟨A n, fun W hW => ?_, hK0 _ (wpQuiet_step (fun K1 hK1 => ?_))⟩
      · ((obtain ⟨_, c1, c2, _⟩ := hW.1.2 (g4, n) (by simp); simp [go_sem, c1, c2]))
      clear hK0 K0
      go_simp
      refine ⟨A n, fun W hW => ?_, hK1 _ (wpQuiet_step (fun K0 hK0 => ?_))⟩
      · ((obtain ⟨_, c1, c2, _⟩ := hW.1.2 (g1, n) (by simp); simp [go_sem, c1, c2]))
      clear hK1 K1
      go_simp
      first | (with_reducible refine hK0 _ (wpQuiet_step (fun K1 hK1 => ?_))) | (with_reducible refine ⟨_, fun _ _ => rfl, hK0 _ (wpQuiet_step (fun K1 hK1 => ?_))⟩) | (rw [if_neg (by intro e; cases e)]; with_reducible refine hK0 _ (wpQuiet_step (fun K1 hK1 => ?_)))
      clear hK0 K0
      go_simp
      first | (with_reducible refine hK1 _ (wpQuiet_step (fun K0 hK0 => ?_))) | (with_reducible refine ⟨_, fun _ _ => rfl, hK1 _ (wpQuiet_step (fun K0 hK0 => ?_))⟩) | (rw [if_neg (by intro e; cases e)]; with_reducible refine hK1 _ (wpQuiet_step (fun K0 hK0 => ?_)))
      clear hK1 K1
      go_simp
      first | (with_reducible refine hK0 _ (wpQuiet_step (fun K1 hK1 => ?_))) | (with_reducible refine ⟨_, fun _ _ => rfl, hK0 _ (wpQuiet_step (fun K1 hK1 => ?_))⟩) | (rw [if_neg (by intro e; cases e)]; with_reducible refine hK0 _ (wpQuiet_step (fun K1 hK1 => ?_)))
      clear hK0 K0
      go_simp
      refine ⟨A a, fun W hW => ?_, hK1 _ (wpQuiet_step (fun K0 hK0 => ?_))⟩
      · ((obtain ⟨_, c1, c2, _⟩ := hW.1.2 (w.heap.size, a) (by simp); simp [go_sem, c1, c2]))
      clear hK1 K1
      go_simp
      refine ⟨.bool false, fun W hW => ?_, hK0 _ (wpQuiet_step (fun K1 hK1 => ?_))⟩
      · exact (HD.out W _ hW.2.2.2.1).mono fun e w2 ⟨he, hb⟩ => ⟨he, Ls.step hW hb⟩
      clear hK0 K0
      go_simp
      first | (with_reducible refine hK1 _ (wpQuiet_step (fun K0 hK0 => ?_))) | (with_reducible refine ⟨_, fun _ _ => rfl, hK1 _ (wpQuiet_step (fun K0 hK0 => ?_))⟩) | (rw [if_neg (by intro e; cases e)]; with_reducible refine hK1 _ (wpQuiet_step (fun K0 hK0 => ?_)))
      clear hK1 K1
      go_simp
      refine ⟨A a, fun W hW => ?_, hK0 _ (wpQuiet_step (fun K1 hK1 => ?_))⟩
      · ((obtain ⟨_, c1, c2, _⟩ := hW.1.2 (w.heap.size, a) (by simp); simp [go_sem, c1, c2]))
      clear hK0 K0
      go_simp
      refine ⟨.bool true, fun W hW => ?_, hK1 _ (wpQuiet_step (fun K0 hK0 => ?_))⟩
      · exact (HX.out W _ hW.2.1).mono fun e w2 ⟨he, hb⟩ => ⟨he, Ls.step hW hb⟩
      clear hK1 K1
      go_simp
      first | (with_reducible refine hK0 _ (wpQuiet_step (fun K1 hK1 => ?_))) | (with_reducible refine ⟨_, fun _ _ => rfl, hK0 _ (wpQuiet_step (fun K1 hK1 => ?_))⟩) | (rw [if_neg (by intro e; cases e)]; with_reducible refine hK0 _ (wpQuiet_step (fun K1 hK1 => ?_)))
      clear hK0 K0
      go_simp
      first | (with_reducible refine hK1 _ (wpQuiet_step (fun K0 hK0 => ?_))) | (with_reducible refine ⟨_, fun _ _ => rfl, hK1 _ (wpQuiet_step (fun K0 hK0 => ?_))⟩) | (rw [if_neg (by intro e; cases e)]; with_reducible refine hK1 _ (wpQuiet_step (fun K0 hK0 => ?_)))
      clear hK1 K1
      go_simp
      refine ⟨A a, fun W hW => ?_, hK0 _ (wpQuiet_step (fun K1 hK1 => ?_))⟩
      · ((obtain ⟨_, c1, c2, _⟩ := hW.1.2 (w.heap.size, a) (by simp); simp [go_sem, c1, c2]))
      clear hK0 K0
      go_simp
      refine ⟨.bool true, fun W hW => ?_, hK1 _ (wpQuiet_step (fun K0 hK0 => ?_))⟩
      · exact (HY.out W _ hW.2.2.1).mono fun e w2 ⟨he, hb⟩ => ⟨he, Ls.step hW hb⟩
      clear hK1 K1
      go_simp
      first | (with_reducible refine hK0 _ (wpQuiet_step (fun K1 hK1 => ?_))) | (with_reducible refine ⟨_, fun _ _ => rfl, hK0 _ (wpQuiet_step (fun K1 hK1 => ?_))⟩) | (rw [if_neg (by intro e; cases e)]; with_reducible refine hK0 _ (wpQuiet_step (fun K1 hK1 => ?_)))
      clear hK0 K0
      go_simp
      first | (with_reducible refine hK1 _ (wpQuiet_step (fun K0 hK0 => ?_))) | (with_reducible refine ⟨_, fun _ _ => rfl, hK1 _ (wpQuiet_step (fun K0 hK0 => ?_))⟩) | (rw [if_neg (by intro e; cases e)]; with_reducible refine hK1 _ (wpQuiet_step (fun K0 hK0 => ?_)))
      clear hK1 K1
      go_simp
      first | (with_reducible refine hK0 _ (wpQuiet_step (fun K1 hK1 => ?_))) | (with_reducible refine ⟨_, fun _ _ => rfl, hK0 _ (wpQuiet_step (fun K1 hK1 => ?_))⟩) | (rw [if_neg (by intro e; cases e)]; with_reducible refine hK0 _ (wpQuiet_step (fun K1 hK1 => ?_)))
      clear hK0 K0
      go_simp
      first | (with_reducible refine hK1 _ (wpQuiet_step (fun K0 hK0 => ?_))) | (with_reducible refine ⟨_, fun _ _ => rfl, hK1 _ (wpQuiet_step (fun K0 hK0 => ?_))⟩) | (rw [if_neg (by intro e; cases e)]; with_reducible refine hK1 _ (wpQuiet_step (fun K0 hK0 => ?_)))
      clear hK1 K1
      go_simp
      first | (with_reducible refine hK0 _ (wpQuiet_step (fun K1 hK1 => ?_))) | (with_reducible refine ⟨_, fun _ _ => rfl, hK0 _ (wpQuiet_step (fun K1 hK1 => ?_))⟩) | (rw [if_neg (by intro e; cases e)]; with_reducible refine hK0 _ (wpQuiet_step (fun K1 hK1 => ?_)))
      clear hK0 K0
      go_simp
      first | (with_reducible refine hK1 _ (wpQuiet_step (fun K0 hK0 => ?_))) | (with_reducible refine ⟨_, fun _ _ => rfl, hK1 _ (wpQuiet_step (fun K0 hK0 => ?_))⟩) | (rw [if_neg (by intro e; cases e)]; with_reducible refine hK1 _ (wpQuiet_step (fun K0 hK0 => ?_)))
      clear hK1 K1
      go_simp
      refine ⟨A a, fun W hW => ?_, hK0 _ (wpQuiet_step (fun K1 hK1 => ?_))⟩
      · ((obtain ⟨_, c1, c2, _⟩ := hW.1.2 (w.heap.size, a) (by simp); simp [go_sem, c1, c2]))
      clear hK0 K0
      go_simp
      refine ⟨.bool true, fun W hW => ?_, hK1 _ (wpQuiet_step (fun K0 hK0 => ?_))⟩
      · exact (HB.out W _ hW.2.2.2.2).mono fun e w2 ⟨he, hb⟩ => ⟨he, Ls.step hW hb⟩
      clear hK1 K1
      go_simp
      first | (with_reducible refine hK0 _ (wpQuiet_step (fun K1 hK1 => ?_))) | (with_reducible refine ⟨_, fun _ _ => rfl, hK0 _ (wpQuiet_step (fun K1 hK1 => ?_))⟩) | (rw [if_neg (by intro e; cases e)]; with_reducible refine hK0 _ (wpQuiet_step (fun K1 hK1 => ?_)))
      clear hK0 K0
      go_simp
      refine ⟨A a, fun W hW => ?_, hK1 _ (wpQuiet_step (fun K0 hK0 => ?_))⟩
      · ((obtain ⟨_, c1, c2, _⟩ := hW.1.2 (w.heap.size, a) (by simp); simp [go_sem, c1, c2]))
      clear hK1 K1
      go_simp
      refine ⟨.bool true, fun W hW => ?_, hK0 _ (wpQuiet_step (fun K1 hK1 => ?_))⟩
      · exact (HX.out W _ hW.2.1).mono fun e w2 ⟨he, hb⟩ => ⟨he, Ls.step hW hb⟩
      clear hK0 K0
      go_simp
      first | (with_reducible refine hK1 _ (wpQuiet_step (fun K0 hK0 => ?_))) | (with_reducible refine ⟨_, fun _ _ => rfl, hK1 _ (wpQuiet_step (fun K0 hK0 => ?_))⟩) | (rw [if_neg (by intro e; cases e)]; with_reducible refine hK1 _ (wpQuiet_step (fun K0 hK0 => ?_)))
      clear hK1 K1
      go_simp
      first | (with_reducible refine hK0 _ (wpQuiet_step (fun K1 hK1 => ?_))) | (with_reducible refine ⟨_, fun _ _ => rfl, hK0 _ (wpQuiet_step (fun K1 hK1 => ?_))⟩) | (rw [if_neg (by intro e; cases e)]; with_reducible refine hK0 _ (wpQuiet_step (fun K1 hK1 => ?_)))
      clear hK0 K0
      go_simp
      refine ⟨A a, fun W hW => ?_, hK1 _ (wpQuiet_step (fun K0 hK0 => ?_))⟩
      · ((obtain ⟨_, c1, c2, _⟩ := hW.1.2 (w.heap.size, a) (by simp); simp [go_sem, c1, c2]))
      clear hK1 K1
      go_simp
      refine ⟨.bool true, fun W hW => ?_, hK0 _ (wpQuiet_step (fun K1 hK1 => ?_))⟩
      · exact (HY.out W _ hW.2.2.1).mono fun e w2 ⟨he, hb⟩ => ⟨he, Ls.step hW hb⟩
      clear hK0 K0
      go_simp
      first | (with_reducible refine hK1 _ (wpQuiet_step (fun K0 hK0 => ?_))) | (with_reducible refine ⟨_, fun _ _ => rfl, hK1 _ (wpQuiet_step (fun K0 hK0 => ?_))⟩) | (rw [if_neg (by intro e; cases e)]; with_reducible refine hK1 _ (wpQuiet_step (fun K0 hK0 => ?_)))
      clear hK1 K1
      go_simp
      first | (with_reducible refine hK0 _ (wpQuiet_step (fun K1 hK1 => ?_))) | (with_reducible refine ⟨_, fun _ _ => rfl, hK0 _ (wpQuiet_step (fun K1 hK1 => ?_))⟩) | (rw [if_neg (by intro e; cases e)]; with_reducible refine hK0 _ (wpQuiet_step (fun K1 hK1 => ?_)))
      clear hK0 K0
      go_simp
      first | (with_reducible refine hK1 _ (wpQuiet_step (fun K0 hK0 => ?_))) | (with_reducible refine ⟨_, fun _ _ => rfl, hK1 _ (wpQuiet_step (fun K0 hK0 => ?_))⟩) | (rw [if_neg (by intro e; cases e)]; with_reducible refine hK1 _ (wpQuiet_step (fun K0 hK0 => ?_)))
      clear hK1 K1
      go_simp
      first | (with_reducible refine hK0 _ (wpQuiet_nil ?_)) | (with_reducible refine ⟨_, fun _ _ => rfl, hK0 _ (wpQuiet_nil ?_)⟩) | (rw [if_neg (by intro e; cases e)]; with_reducible refine hK0 _ (wpQuiet_nil ?_))
      clear hK0 K0
      intro wz FZ
      go_wp2
      go_ret
      exact ⟨rfl, FZ.1.1⟩

set_option maxRecDepth 100000 in
set_option maxHeartbeats 1000000 in
theorem lesslaw_any {v u : Value} {l m : List Rg} {a : Nat} (hf : FitL l) (hg : FitL m) (w : World) (hv : Lst v l w) (hu : Lst u m w) :
    Calls Try.prog 8 #[v, u, A a] w (Gives (.bool true) w) := by
  obtain ⟨x1, x2, x3⟩ := builtL_good hf
  obtain ⟨y1, y2, y3⟩ := builtL_good hg
  have BX := hide (fun W H => built_any (v := v) hf W H)
  have BY := hide (fun W H => built_any (v := u) hg W H)
  generalize builtL l = x at *
  generalize builtL m = y at *
  have d1 := (less_spec x1 y1).1
  have d2 := less_fit x1 y1 x2
  have d3 := less_length x1 y1
  have b1 := (less_spec x1 d1).1
  have b2 := less_fit x1 d1 x2
  have b3 := less_length x1 d1
  have sx := sound_snd.2 x1
  have sd := sound_snd.2 d1
  have sb := sound_snd.2 b1
  have ts : addS (cntV (lessL x y)) (cntV (lessL x (lessL x y))) = cntV x := by
    unfold cntV
    rw [if_pos sx, if_pos sd, if_pos sb, tot_sum x1 y1 x2]
  have fc : ∀ s : List Rg, Fits (cntV s) := by
    intro s
    unfold cntV
    split
    · exact fits_tot s 0 (by unfold Fits; decide)
    · unfold Fits; decide
  refine lesslaw_walk (hx := hasB x a) (hy := hasB y a) w hv hu BX BY (hide fun W s t H K => less_any x2 y2 sx (sound_snd.2 y1) (by omega) (by omega) W H K) (hide fun W s t H K => less_self x1 ▸ less_any x2 x2 sx sx (by omega) (by omega) W H K)
    (hide fun W s H => count_any x2 (by omega) W H) (hide fun W s H => count_any d2 (by omega) W H) (hide fun W s H => count_any b2 (by omega) W H)
    (hide fun W => via (add_any (fc (lessL x y)) (fc (lessL x (lessL x y))) W) (by rw [ts]))
    (hide fun W s H => via (sound_any d2 (by omega) W H) (by rw [sd])) (hide fun W s H => via (sound_any b2 (by omega) W H) (by rw [sb]))
    (hide fun W s H => has_any x2 (by omega) a W H) (hide fun W s H => has_any y2 (by omega) a W H) (hide fun W s H => via (has_any d2 (by omega) a W H) (by rw [has_less x1 y1])) (hide fun W s H => via (has_any b2 (by omega) a W H) (by rw [has_both x1 y1]))
    (hide fun W s t H K => less_any x2 d2 sx sd (by omega) (by omega) W H K)
end Go.Proofs.Ytkpogddninbmmaa
