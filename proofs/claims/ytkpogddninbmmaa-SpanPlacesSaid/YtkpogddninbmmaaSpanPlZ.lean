/-
  The walk of the law SpanPlaces, where there is none. Conditions: what the calls answer.
-/
import Derived.Test.YtkpogddninbmmaaSpanPlD
namespace Go.Proofs.Ytkpogddninbmmaa
open Go.RowKit Go.Joins

set_option maxRecDepth 100000 in
set_option maxHeartbeats 4000000 in
theorem places_FFH {v : Value} {l s : List Rg} {n a cv xv rk : Nat} (w : World) (hv : Lst v l w)
    (BU : Hid (∀ W, Lst v l W → Calls Try.prog 28 #[v] W (Reads s W)))
    (CN : Hid (∀ W vs, Lst vs s W → Calls Try.prog 20 #[vs] W (Gives (.tuple #[A cv, .bool false]) W)))
    (NT : Hid (∀ W vs, Lst vs s W → Calls Try.prog 22 #[vs, A n] W (Gives (.tuple #[A xv, .bool false]) W)))
    (XZ : Hid (hi xv = 0 ∧ lo xv = 0))
    {d : Int} (DL : ¬ d < 0)
    (CM : Hid (∀ W, Calls Try.prog 29 #[A n, A cv] W (Gives (.int .i64 d) W)))
    (RA : Hid (∀ W vs, Lst vs s W → Calls Try.prog 26 #[vs, A a] W (Gives (A rk) W)))
    (NR : Hid (∀ W vs, Lst vs s W → Calls Try.prog 22 #[vs, A rk] W (Gives (.tuple #[A a, .bool true]) W)))
    (HA : Hid (∀ W vs, Lst vs s W → Calls Try.prog 24 #[vs, A a] W (Gives (.bool true) W))) :
    Calls Try.prog 7 #[v, A n, A a] w (Gives (.bool true) w) := by
  have AW := hide (fun W => awake_any W)
  have X0 := ((bx_nil w).new n).new a
  have V0 := hv.step X0.1
  rw [World.size_alloc] at X0
  obtain ⟨p, c, rfl⟩ := lst_len hv
  go_enter Try.func7, Try.ntmps7
  go_wp2_with fail
  refine (AW.out _).mono ?_
  rintro e w1 ⟨rfl, hb⟩
  have X1 := X0.step hb
  have V1 := V0.step hb
  clear hb X0 V0
  go_wp2_with fail
  refine (BU.out _ V1).mono ?_
  rintro e w2 ⟨vs, rfl, hb, L2⟩
  have X2 := X1.step hb
  clear hb X1 V1
  skip
  go_wp2_with fail
  refine (CN.out _ _ L2).mono ?_
  rintro e w3 ⟨rfl, hb⟩
  have X3 := (X2.step hb).new cv
  have L3 := (L2.step hb).step (below_alloc w3 (.cells #[.int .u64 (hi cv : Nat), .int .u64 (lo cv : Nat)] 25))
  clear hb X2 L2
  obtain ⟨⟨k0, k1, k2, k3, k4⟩, ⟨a0, a1, a2, a3, a4⟩, ⟨n0, n1, n2, n3, n4⟩⟩ := bx_three X3
  go_wp2_with fail
  clear k0 k1 k2 k3 k4 a0 a1 a2 a3 a4 n0 n1 n2 n3 n4
  refine (NT.out _ _ L3).mono ?_
  rintro e w4 ⟨rfl, hb⟩
  generalize w3.heap.size = g2 at X3 ⊢
  have X := (X3.step hb).new xv
  have L := (L3.step hb).step (below_alloc w4 (.cells #[.int .u64 (hi xv : Nat), .int .u64 (lo xv : Nat)] 25))
  clear hb X3 L3
  go_wp2_with fail
  generalize w4.heap.size = g3 at X ⊢
  have F0 := And.intro X L
  clear X L
  refine wp_region_quiet (C := Pk w [(g3, xv), (g2, cv), (w.heap.size + 1, a), (w.heap.size, n)] vs s) (by kernel_rfl) (by kernel_rfl) (show Pk w [(g3, xv), (g2, cv), (w.heap.size + 1, a), (w.heap.size, n)] vs s _ from F0).drew (wpQuiet_step (fun K0 hK0 => ?_))
  go_simp
  first | (with_reducible refine hK0 _ (wpQuiet_step (fun K1 hK1 => ?_))) | (with_reducible refine ⟨_, fun _ _ => rfl, hK0 _ (wpQuiet_step (fun K1 hK1 => ?_))⟩) | (rw [if_neg (by intro e; cases e)]; with_reducible refine hK0 _ (wpQuiet_step (fun K1 hK1 => ?_)))
  clear hK0 K0
  go_simp
  first | (with_reducible refine hK1 _ (wpQuiet_step (fun K0 hK0 => ?_))) | (with_reducible refine ⟨_, fun _ _ => rfl, hK1 _ (wpQuiet_step (fun K0 hK0 => ?_))⟩) | (rw [if_neg (by intro e; cases e)]; with_reducible refine hK1 _ (wpQuiet_step (fun K0 hK0 => ?_)))
  clear hK1 K1
  go_simp
  first | (with_reducible refine hK0 _ (wpQuiet_step (fun K1 hK1 => ?_))) | (with_reducible refine ⟨_, fun _ _ => rfl, hK0 _ (wpQuiet_step (fun K1 hK1 => ?_))⟩) | (rw [if_neg (by intro e; cases e)]; with_reducible refine hK0 _ (wpQuiet_step (fun K1 hK1 => ?_)))
  clear hK0 K0
  go_simp
  refine ⟨A n, fun W hW => ?_, hK1 _ (wpQuiet_step (fun K0 hK0 => ?_))⟩
  · ((obtain ⟨_, _, _, ⟨_, c1, c2, _⟩⟩ := bx_four hW.1; simp [go_sem, c1, c2]))
  clear hK1 K1
  go_simp
  refine ⟨A cv, fun W hW => ?_, hK0 _ (wpQuiet_step (fun K1 hK1 => ?_))⟩
  · ((obtain ⟨_, ⟨_, c1, c2, _⟩, _, _⟩ := bx_four hW.1; simp [go_sem, c1, c2]))
  clear hK0 K0
  go_simp
  refine ⟨.int .i64 d, fun W hW => ?_, hK1 _ (wpQuiet_step (fun K0 hK0 => ?_))⟩
  · exact (CM.out W).mono fun e w2 ⟨he, hb⟩ => ⟨he, Pk.step hW hb⟩
  clear hK1 K1
  go_simp
  first | (with_reducible refine hK0 _ (wpQuiet_step (fun K1 hK1 => ?_))) | (with_reducible refine ⟨_, fun _ _ => rfl, hK0 _ (wpQuiet_step (fun K1 hK1 => ?_))⟩) | (rw [if_neg (by intro e; cases e)]; with_reducible refine hK0 _ (wpQuiet_step (fun K1 hK1 => ?_)))
  clear hK0 K0
  go_simp
  first | (with_reducible refine hK1 _ (wpQuiet_step (fun K0 hK0 => ?_))) | (with_reducible refine ⟨_, fun _ _ => rfl, hK1 _ (wpQuiet_step (fun K0 hK0 => ?_))⟩) | (rw [if_neg (by intro e; cases e)]; with_reducible refine hK1 _ (wpQuiet_step (fun K0 hK0 => ?_)))
  clear hK1 K1
  go_simp
  first | (with_reducible refine hK0 _ (wpQuiet_step (fun K1 hK1 => ?_))) | (with_reducible refine ⟨_, fun _ _ => rfl, hK0 _ (wpQuiet_step (fun K1 hK1 => ?_))⟩) | (rw [if_neg (by intro e; cases e)]; with_reducible refine hK0 _ (wpQuiet_step (fun K1 hK1 => ?_)))
  clear hK0 K0
  go_simp
  first | (with_reducible refine hK1 _ (wpQuiet_step (fun K0 hK0 => ?_))) | (with_reducible refine ⟨_, fun _ _ => rfl, hK1 _ (wpQuiet_step (fun K0 hK0 => ?_))⟩) | (rw [if_neg (by intro e; cases e)]; with_reducible refine hK1 _ (wpQuiet_step (fun K0 hK0 => ?_)))
  clear hK1 K1
  go_simp
  first | (with_reducible refine hK0 _ (wpQuiet_step (fun K1 hK1 => ?_))) | (with_reducible refine ⟨_, fun _ _ => rfl, hK0 _ (wpQuiet_step (fun K1 hK1 => ?_))⟩) | (rw [if_neg (by intro e; cases e)]; with_reducible refine hK0 _ (wpQuiet_step (fun K1 hK1 => ?_)))
  clear hK0 K0
  go_simp
  first | (with_reducible refine hK1 _ (wpQuiet_step (fun K0 hK0 => ?_))) | (with_reducible refine ⟨_, fun _ _ => rfl, hK1 _ (wpQuiet_step (fun K0 hK0 => ?_))⟩) | (rw [if_neg (by intro e; cases e)]; with_reducible refine hK1 _ (wpQuiet_step (fun K0 hK0 => ?_)))
  clear hK1 K1
  go_simp
  first | (with_reducible refine hK0 _ (wpQuiet_step (fun K1 hK1 => ?_))) | (with_reducible refine ⟨_, fun _ _ => rfl, hK0 _ (wpQuiet_step (fun K1 hK1 => ?_))⟩) | (rw [if_neg (by intro e; cases e)]; with_reducible refine hK0 _ (wpQuiet_step (fun K1 hK1 => ?_)))
  clear hK0 K0
  go_simp
  first | (with_reducible refine hK1 _ (wpQuiet_step (fun K0 hK0 => ?_))) | (with_reducible refine ⟨_, fun _ _ => rfl, hK1 _ (wpQuiet_step (fun K0 hK0 => ?_))⟩) | (rw [if_neg (by intro e; cases e)]; with_reducible refine hK1 _ (wpQuiet_step (fun K0 hK0 => ?_)))
  clear hK1 K1
  go_simp
  first | (with_reducible refine hK0 _ (wpQuiet_step (fun K1 hK1 => ?_))) | (with_reducible refine ⟨_, fun _ _ => rfl, hK0 _ (wpQuiet_step (fun K1 hK1 => ?_))⟩) | (rw [if_neg (by intro e; cases e)]; with_reducible refine hK0 _ (wpQuiet_step (fun K1 hK1 => ?_)))
  clear hK0 K0
  go_simp
  first | (with_reducible refine hK1 _ (wpQuiet_step (fun K0 hK0 => ?_))) | (with_reducible refine ⟨_, fun _ _ => rfl, hK1 _ (wpQuiet_step (fun K0 hK0 => ?_))⟩) | (rw [if_neg (by intro e; cases e)]; with_reducible refine hK1 _ (wpQuiet_step (fun K0 hK0 => ?_)))
  clear hK1 K1
  go_simp
  first | (with_reducible refine hK0 _ (wpQuiet_step (fun K1 hK1 => ?_))) | (with_reducible refine ⟨_, fun _ _ => rfl, hK0 _ (wpQuiet_step (fun K1 hK1 => ?_))⟩) | (rw [if_neg (by intro e; cases e)]; with_reducible refine hK0 _ (wpQuiet_step (fun K1 hK1 => ?_)))
  clear hK0 K0
  go_simp
  first | (with_reducible refine hK1 _ (wpQuiet_step (fun K0 hK0 => ?_))) | (with_reducible refine ⟨_, fun _ _ => rfl, hK1 _ (wpQuiet_step (fun K0 hK0 => ?_))⟩) | (rw [if_neg (by intro e; cases e)]; with_reducible refine hK1 _ (wpQuiet_step (fun K0 hK0 => ?_)))
  clear hK1 K1
  go_simp
  first | (with_reducible refine hK0 _ (wpQuiet_step (fun K1 hK1 => ?_))) | (with_reducible refine ⟨_, fun _ _ => rfl, hK0 _ (wpQuiet_step (fun K1 hK1 => ?_))⟩) | (rw [if_neg (by intro e; cases e)]; with_reducible refine hK0 _ (wpQuiet_step (fun K1 hK1 => ?_)))
  clear hK0 K0
  go_simp
  first | (with_reducible refine hK1 _ (wpQuiet_step (fun K0 hK0 => ?_))) | (with_reducible refine ⟨_, fun _ _ => rfl, hK1 _ (wpQuiet_step (fun K0 hK0 => ?_))⟩) | (rw [if_neg (by intro e; cases e)]; with_reducible refine hK1 _ (wpQuiet_step (fun K0 hK0 => ?_)))
  clear hK1 K1
  go_simp
  first | (with_reducible refine hK0 _ (wpQuiet_step (fun K1 hK1 => ?_))) | (with_reducible refine ⟨_, fun _ _ => rfl, hK0 _ (wpQuiet_step (fun K1 hK1 => ?_))⟩) | (rw [if_neg (by intro e; cases e)]; with_reducible refine hK0 _ (wpQuiet_step (fun K1 hK1 => ?_)))
  clear hK0 K0
  go_simp
  first | (with_reducible refine hK1 _ (wpQuiet_step (fun K0 hK0 => ?_))) | (with_reducible refine ⟨_, fun _ _ => rfl, hK1 _ (wpQuiet_step (fun K0 hK0 => ?_))⟩) | (rw [if_neg (by intro e; cases e)]; with_reducible refine hK1 _ (wpQuiet_step (fun K0 hK0 => ?_)))
  clear hK1 K1
  go_simp
  first | (with_reducible refine hK0 _ (wpQuiet_step (fun K1 hK1 => ?_))) | (with_reducible refine ⟨_, fun _ _ => rfl, hK0 _ (wpQuiet_step (fun K1 hK1 => ?_))⟩) | (rw [if_neg (by intro e; cases e)]; with_reducible refine hK0 _ (wpQuiet_step (fun K1 hK1 => ?_)))
  clear hK0 K0
  go_simp
  first | (with_reducible refine hK1 _ (wpQuiet_step (fun K0 hK0 => ?_))) | (with_reducible refine ⟨_, fun _ _ => rfl, hK1 _ (wpQuiet_step (fun K0 hK0 => ?_))⟩) | (rw [if_neg (by intro e; cases e)]; with_reducible refine hK1 _ (wpQuiet_step (fun K0 hK0 => ?_)))
  clear hK1 K1
  go_simp
  first | (with_reducible refine hK0 _ (wpQuiet_step (fun K1 hK1 => ?_))) | (with_reducible refine ⟨_, fun _ _ => rfl, hK0 _ (wpQuiet_step (fun K1 hK1 => ?_))⟩) | (rw [if_neg (by intro e; cases e)]; with_reducible refine hK0 _ (wpQuiet_step (fun K1 hK1 => ?_)))
  clear hK0 K0
  go_simp
  first | (with_reducible refine hK1 _ (wpQuiet_step (fun K0 hK0 => ?_))) | (with_reducible refine ⟨_, fun _ _ => rfl, hK1 _ (wpQuiet_step (fun K0 hK0 => ?_))⟩) | (rw [if_neg (by intro e; cases e)]; with_reducible refine hK1 _ (wpQuiet_step (fun K0 hK0 => ?_)))
  clear hK1 K1
  go_simp
  first | (with_reducible refine hK0 _ (wpQuiet_step (fun K1 hK1 => ?_))) | (with_reducible refine ⟨_, fun _ _ => rfl, hK0 _ (wpQuiet_step (fun K1 hK1 => ?_))⟩) | (rw [if_neg (by intro e; cases e)]; with_reducible refine hK0 _ (wpQuiet_step (fun K1 hK1 => ?_)))
  clear hK0 K0
  go_simp
  first | (with_reducible refine hK1 _ (wpQuiet_step (fun K0 hK0 => ?_))) | (with_reducible refine ⟨_, fun _ _ => rfl, hK1 _ (wpQuiet_step (fun K0 hK0 => ?_))⟩) | (rw [if_neg (by intro e; cases e)]; with_reducible refine hK1 _ (wpQuiet_step (fun K0 hK0 => ?_)))
  clear hK1 K1
  go_simp
  first | (with_reducible refine hK0 _ (wpQuiet_step (fun K1 hK1 => ?_))) | (with_reducible refine ⟨_, fun _ _ => rfl, hK0 _ (wpQuiet_step (fun K1 hK1 => ?_))⟩) | (rw [if_neg (by intro e; cases e)]; with_reducible refine hK0 _ (wpQuiet_step (fun K1 hK1 => ?_)))
  clear hK0 K0
  go_simp
  refine ⟨.agg #[.int .u64 0, .int .u64 0], fun W hW => ?_, hK1 _ (wpQuiet_step (fun K0 hK0 => ?_))⟩
  · ((obtain ⟨⟨_, c1, c2, _⟩, _, _, _⟩ := bx_four hW.1; simp [go_sem, c1, c2, XZ.out.1, XZ.out.2]))
  clear hK1 K1
  go_simp
  first | (with_reducible refine hK0 _ (wpQuiet_step (fun K1 hK1 => ?_))) | (with_reducible refine ⟨_, fun _ _ => rfl, hK0 _ (wpQuiet_step (fun K1 hK1 => ?_))⟩) | (rw [if_neg (by intro e; cases e)]; with_reducible refine hK0 _ (wpQuiet_step (fun K1 hK1 => ?_)))
  clear hK0 K0
  go_simp
  first | (with_reducible refine hK1 _ (wpQuiet_step (fun K0 hK0 => ?_))) | (with_reducible refine ⟨_, fun _ _ => rfl, hK1 _ (wpQuiet_step (fun K0 hK0 => ?_))⟩) | (rw [if_neg (by intro e; cases e)]; with_reducible refine hK1 _ (wpQuiet_step (fun K0 hK0 => ?_)))
  clear hK1 K1
  go_simp
  first | (with_reducible refine hK0 _ (wpQuiet_step (fun K1 hK1 => ?_))) | (with_reducible refine ⟨_, fun _ _ => rfl, hK0 _ (wpQuiet_step (fun K1 hK1 => ?_))⟩) | (rw [if_neg (by intro e; cases e)]; with_reducible refine hK0 _ (wpQuiet_step (fun K1 hK1 => ?_)))
  clear hK0 K0
  go_simp
  first | (with_reducible refine hK1 _ (wpQuiet_nil ?_)) | (with_reducible refine ⟨_, fun _ _ => rfl, hK1 _ (wpQuiet_nil ?_)⟩) | (rw [if_neg (by intro e; cases e)]; with_reducible refine hK1 _ (wpQuiet_nil ?_))
  clear hK1 K1
  intro wq F1
  obtain ⟨X, L⟩ := F1
  obtain ⟨⟨x0, x1, x2, x3, x4⟩, ⟨k0, k1, k2, k3, k4⟩, ⟨a0, a1, a2, a3, a4⟩, ⟨n0, n1, n2, n3, n4⟩⟩ := bx_four X
  go_wp2_with fail
  clear x0 x1 x2 x3 x4 k0 k1 k2 k3 k4 a0 a1 a2 a3 a4 n0 n1 n2 n3 n4
  refine (RA.out _ _ L).mono ?_
  rintro e wn ⟨rfl, hb⟩
  replace X := X.step hb
  replace L := L.step hb
  clear hb
  replace L := L.step (below_alloc wn (.cells #[.int .u64 (hi rk : Nat), .int .u64 (lo rk : Nat)] 25))
  replace X := X.new rk
  obtain ⟨⟨r0, r1, r2, r3, r4⟩, ⟨a0, a1, a2, a3, a4⟩⟩ := bx_five X
  go_wp2_with fail
  clear r0 r1 r2 r3 r4 a0 a1 a2 a3 a4
  generalize wn.heap.size = g4 at X ⊢
  refine (NR.out _ _ L).mono ?_
  rintro e wm ⟨rfl, hb⟩
  replace X := (X.step hb).new a
  replace L := (L.step hb).step (below_alloc wm (.cells #[.int .u64 (hi a : Nat), .int .u64 (lo a : Nat)] 25))
  clear hb
  obtain ⟨⟨y0, y1, y2, y3, y4⟩, ⟨a0, a1, a2, a3, a4⟩⟩ := bx_six X
  go_wp2_with fail
  clear y0 y1 y2 y3 y4 a0 a1 a2 a3 a4
  generalize wm.heap.size = g5 at X ⊢
  refine (HA.out _ _ L).mono ?_
  rintro e wo ⟨rfl, hb⟩
  replace X := X.step hb
  replace L := L.step hb
  clear hb
  obtain ⟨⟨y0, y1, y2, y3, y4⟩, ⟨a0, a1, a2, a3, a4⟩⟩ := bx_six X
  go_wp2
  clear y0 y1 y2 y3 y4 a0 a1 a2 a3 a4
  go_ret
  exact ⟨rfl, X.1⟩

set_option maxRecDepth 100000 in
set_option maxHeartbeats 4000000 in
theorem places_FFN {v : Value} {l s : List Rg} {n a cv xv rk yv : Nat} (w : World) (hv : Lst v l w)
    (BU : Hid (∀ W, Lst v l W → Calls Try.prog 28 #[v] W (Reads s W)))
    (CN : Hid (∀ W vs, Lst vs s W → Calls Try.prog 20 #[vs] W (Gives (.tuple #[A cv, .bool false]) W)))
    (NT : Hid (∀ W vs, Lst vs s W → Calls Try.prog 22 #[vs, A n] W (Gives (.tuple #[A xv, .bool false]) W)))
    (XZ : Hid (hi xv = 0 ∧ lo xv = 0))
    {d : Int} (DL : ¬ d < 0)
    (CM : Hid (∀ W, Calls Try.prog 29 #[A n, A cv] W (Gives (.int .i64 d) W)))
    (RA : Hid (∀ W vs, Lst vs s W → Calls Try.prog 26 #[vs, A a] W (Gives (A rk) W)))
    (NR : Hid (∀ W vs, Lst vs s W → Calls Try.prog 22 #[vs, A rk] W (Gives (.tuple #[A yv, .bool false]) W)))
    (HA : Hid (∀ W vs, Lst vs s W → Calls Try.prog 24 #[vs, A a] W (Gives (.bool false) W))) :
    Calls Try.prog 7 #[v, A n, A a] w (Gives (.bool true) w) := by
  have AW := hide (fun W => awake_any W)
  have X0 := ((bx_nil w).new n).new a
  have V0 := hv.step X0.1
  rw [World.size_alloc] at X0
  obtain ⟨p, c, rfl⟩ := lst_len hv
  go_enter Try.func7, Try.ntmps7
  go_wp2_with fail
  refine (AW.out _).mono ?_
  rintro e w1 ⟨rfl, hb⟩
  have X1 := X0.step hb
  have V1 := V0.step hb
  clear hb X0 V0
  go_wp2_with fail
  refine (BU.out _ V1).mono ?_
  rintro e w2 ⟨vs, rfl, hb, L2⟩
  have X2 := X1.step hb
  clear hb X1 V1
  skip
  go_wp2_with fail
  refine (CN.out _ _ L2).mono ?_
  rintro e w3 ⟨rfl, hb⟩
  have X3 := (X2.step hb).new cv
  have L3 := (L2.step hb).step (below_alloc w3 (.cells #[.int .u64 (hi cv : Nat), .int .u64 (lo cv : Nat)] 25))
  clear hb X2 L2
  obtain ⟨⟨k0, k1, k2, k3, k4⟩, ⟨a0, a1, a2, a3, a4⟩, ⟨n0, n1, n2, n3, n4⟩⟩ := bx_three X3
  go_wp2_with fail
  clear k0 k1 k2 k3 k4 a0 a1 a2 a3 a4 n0 n1 n2 n3 n4
  refine (NT.out _ _ L3).mono ?_
  rintro e w4 ⟨rfl, hb⟩
  generalize w3.heap.size = g2 at X3 ⊢
  have X := (X3.step hb).new xv
  have L := (L3.step hb).step (below_alloc w4 (.cells #[.int .u64 (hi xv : Nat), .int .u64 (lo xv : Nat)] 25))
  clear hb X3 L3
  go_wp2_with fail
  generalize w4.heap.size = g3 at X ⊢
  have F0 := And.intro X L
  clear X L
  refine wp_region_quiet (C := Pk w [(g3, xv), (g2, cv), (w.heap.size + 1, a), (w.heap.size, n)] vs s) (by kernel_rfl) (by kernel_rfl) (show Pk w [(g3, xv), (g2, cv), (w.heap.size + 1, a), (w.heap.size, n)] vs s _ from F0).drew (wpQuiet_step (fun K0 hK0 => ?_))
  go_simp
  first | (with_reducible refine hK0 _ (wpQuiet_step (fun K1 hK1 => ?_))) | (with_reducible refine ⟨_, fun _ _ => rfl, hK0 _ (wpQuiet_step (fun K1 hK1 => ?_))⟩) | (rw [if_neg (by intro e; cases e)]; with_reducible refine hK0 _ (wpQuiet_step (fun K1 hK1 => ?_)))
  clear hK0 K0
  go_simp
  first | (with_reducible refine hK1 _ (wpQuiet_step (fun K0 hK0 => ?_))) | (with_reducible refine ⟨_, fun _ _ => rfl, hK1 _ (wpQuiet_step (fun K0 hK0 => ?_))⟩) | (rw [if_neg (by intro e; cases e)]; with_reducible refine hK1 _ (wpQuiet_step (fun K0 hK0 => ?_)))
  clear hK1 K1
  go_simp
  first | (with_reducible refine hK0 _ (wpQuiet_step (fun K1 hK1 => ?_))) | (with_reducible refine ⟨_, fun _ _ => rfl, hK0 _ (wpQuiet_step (fun K1 hK1 => ?_))⟩) | (rw [if_neg (by intro e; cases e)]; with_reducible refine hK0 _ (wpQuiet_step (fun K1 hK1 => ?_)))
  clear hK0 K0
  go_simp
  refine ⟨A n, fun W hW => ?_, hK1 _ (wpQuiet_step (fun K0 hK0 => ?_))⟩
  · ((obtain ⟨_, _, _, ⟨_, c1, c2, _⟩⟩ := bx_four hW.1; simp [go_sem, c1, c2]))
  clear hK1 K1
  go_simp
  refine ⟨A cv, fun W hW => ?_, hK0 _ (wpQuiet_step (fun K1 hK1 => ?_))⟩
  · ((obtain ⟨_, ⟨_, c1, c2, _⟩, _, _⟩ := bx_four hW.1; simp [go_sem, c1, c2]))
  clear hK0 K0
  go_simp
  refine ⟨.int .i64 d, fun W hW => ?_, hK1 _ (wpQuiet_step (fun K0 hK0 => ?_))⟩
  · exact (CM.out W).mono fun e w2 ⟨he, hb⟩ => ⟨he, Pk.step hW hb⟩
  clear hK1 K1
  go_simp
  first | (with_reducible refine hK0 _ (wpQuiet_step (fun K1 hK1 => ?_))) | (with_reducible refine ⟨_, fun _ _ => rfl, hK0 _ (wpQuiet_step (fun K1 hK1 => ?_))⟩) | (rw [if_neg (by intro e; cases e)]; with_reducible refine hK0 _ (wpQuiet_step (fun K1 hK1 => ?_)))
  clear hK0 K0
  go_simp
  first | (with_reducible refine hK1 _ (wpQuiet_step (fun K0 hK0 => ?_))) | (with_reducible refine ⟨_, fun _ _ => rfl, hK1 _ (wpQuiet_step (fun K0 hK0 => ?_))⟩) | (rw [if_neg (by intro e; cases e)]; with_reducible refine hK1 _ (wpQuiet_step (fun K0 hK0 => ?_)))
  clear hK1 K1
  go_simp
  first | (with_reducible refine hK0 _ (wpQuiet_step (fun K1 hK1 => ?_))) | (with_reducible refine ⟨_, fun _ _ => rfl, hK0 _ (wpQuiet_step (fun K1 hK1 => ?_))⟩) | (rw [if_neg (by intro e; cases e)]; with_reducible refine hK0 _ (wpQuiet_step (fun K1 hK1 => ?_)))
  clear hK0 K0
  go_simp
  first | (with_reducible refine hK1 _ (wpQuiet_step (fun K0 hK0 => ?_))) | (with_reducible refine ⟨_, fun _ _ => rfl, hK1 _ (wpQuiet_step (fun K0 hK0 => ?_))⟩) | (rw [if_neg (by intro e; cases e)]; with_reducible refine hK1 _ (wpQuiet_step (fun K0 hK0 => ?_)))
  clear hK1 K1
  go_simp
  first | (with_reducible refine hK0 _ (wpQuiet_step (fun K1 hK1 => ?_))) | (with_reducible refine ⟨_, fun _ _ => rfl, hK0 _ (wpQuiet_step (fun K1 hK1 => ?_))⟩) | (rw [if_neg (by intro e; cases e)]; with_reducible refine hK0 _ (wpQuiet_step (fun K1 hK1 => ?_)))
  clear hK0 K0
  go_simp
  first | (with_reducible refine hK1 _ (wpQuiet_step (fun K0 hK0 => ?_))) | (with_reducible refine ⟨_, fun _ _ => rfl, hK1 _ (wpQuiet_step (fun K0 hK0 => ?_))⟩) | (rw [if_neg (by intro e; cases e)]; with_reducible refine hK1 _ (wpQuiet_step (fun K0 hK0 => ?_)))
  clear hK1 K1
  go_simp
  first | (with_reducible refine hK0 _ (wpQuiet_step (fun K1 hK1 => ?_))) | (with_reducible refine ⟨_, fun _ _ => rfl, hK0 _ (wpQuiet_step (fun K1 hK1 => ?_))⟩) | (rw [if_neg (by intro e; cases e)]; with_reducible refine hK0 _ (wpQuiet_step (fun K1 hK1 => ?_)))
  clear hK0 K0
  go_simp
  first | (with_reducible refine hK1 _ (wpQuiet_step (fun K0 hK0 => ?_))) | (with_reducible refine ⟨_, fun _ _ => rfl, hK1 _ (wpQuiet_step (fun K0 hK0 => ?_))⟩) | (rw [if_neg (by intro e; cases e)]; with_reducible refine hK1 _ (wpQuiet_step (fun K0 hK0 => ?_)))
  clear hK1 K1
  go_simp
  first | (with_reducible refine hK0 _ (wpQuiet_step (fun K1 hK1 => ?_))) | (with_reducible refine ⟨_, fun _ _ => rfl, hK0 _ (wpQuiet_step (fun K1 hK1 => ?_))⟩) | (rw [if_neg (by intro e; cases e)]; with_reducible refine hK0 _ (wpQuiet_step (fun K1 hK1 => ?_)))
  clear hK0 K0
  go_simp
  first | (with_reducible refine hK1 _ (wpQuiet_step (fun K0 hK0 => ?_))) | (with_reducible refine ⟨_, fun _ _ => rfl, hK1 _ (wpQuiet_step (fun K0 hK0 => ?_))⟩) | (rw [if_neg (by intro e; cases e)]; with_reducible refine hK1 _ (wpQuiet_step (fun K0 hK0 => ?_)))
  clear hK1 K1
  go_simp
  first | (with_reducible refine hK0 _ (wpQuiet_step (fun K1 hK1 => ?_))) | (with_reducible refine ⟨_, fun _ _ => rfl, hK0 _ (wpQuiet_step (fun K1 hK1 => ?_))⟩) | (rw [if_neg (by intro e; cases e)]; with_reducible refine hK0 _ (wpQuiet_step (fun K1 hK1 => ?_)))
  clear hK0 K0
  go_simp
  first | (with_reducible refine hK1 _ (wpQuiet_step (fun K0 hK0 => ?_))) | (with_reducible refine ⟨_, fun _ _ => rfl, hK1 _ (wpQuiet_step (fun K0 hK0 => ?_))⟩) | (rw [if_neg (by intro e; cases e)]; with_reducible refine hK1 _ (wpQuiet_step (fun K0 hK0 => ?_)))
  clear hK1 K1
  go_simp
  first | (with_reducible refine hK0 _ (wpQuiet_step (fun K1 hK1 => ?_))) | (with_reducible refine ⟨_, fun _ _ => rfl, hK0 _ (wpQuiet_step (fun K1 hK1 => ?_))⟩) | (rw [if_neg (by intro e; cases e)]; with_reducible refine hK0 _ (wpQuiet_step (fun K1 hK1 => ?_)))
  clear hK0 K0
  go_simp
  first | (with_reducible refine hK1 _ (wpQuiet_step (fun K0 hK0 => ?_))) | (with_reducible refine ⟨_, fun _ _ => rfl, hK1 _ (wpQuiet_step (fun K0 hK0 => ?_))⟩) | (rw [if_neg (by intro e; cases e)]; with_reducible refine hK1 _ (wpQuiet_step (fun K0 hK0 => ?_)))
  clear hK1 K1
  go_simp
  first | (with_reducible refine hK0 _ (wpQuiet_step (fun K1 hK1 => ?_))) | (with_reducible refine ⟨_, fun _ _ => rfl, hK0 _ (wpQuiet_step (fun K1 hK1 => ?_))⟩) | (rw [if_neg (by intro e; cases e)]; with_reducible refine hK0 _ (wpQuiet_step (fun K1 hK1 => ?_)))
  clear hK0 K0
  go_simp
  first | (with_reducible refine hK1 _ (wpQuiet_step (fun K0 hK0 => ?_))) | (with_reducible refine ⟨_, fun _ _ => rfl, hK1 _ (wpQuiet_step (fun K0 hK0 => ?_))⟩) | (rw [if_neg (by intro e; cases e)]; with_reducible refine hK1 _ (wpQuiet_step (fun K0 hK0 => ?_)))
  clear hK1 K1
  go_simp
  first | (with_reducible refine hK0 _ (wpQuiet_step (fun K1 hK1 => ?_))) | (with_reducible refine ⟨_, fun _ _ => rfl, hK0 _ (wpQuiet_step (fun K1 hK1 => ?_))⟩) | (rw [if_neg (by intro e; cases e)]; with_reducible refine hK0 _ (wpQuiet_step (fun K1 hK1 => ?_)))
  clear hK0 K0
  go_simp
  first | (with_reducible refine hK1 _ (wpQuiet_step (fun K0 hK0 => ?_))) | (with_reducible refine ⟨_, fun _ _ => rfl, hK1 _ (wpQuiet_step (fun K0 hK0 => ?_))⟩) | (rw [if_neg (by intro e; cases e)]; with_reducible refine hK1 _ (wpQuiet_step (fun K0 hK0 => ?_)))
  clear hK1 K1
  go_simp
  first | (with_reducible refine hK0 _ (wpQuiet_step (fun K1 hK1 => ?_))) | (with_reducible refine ⟨_, fun _ _ => rfl, hK0 _ (wpQuiet_step (fun K1 hK1 => ?_))⟩) | (rw [if_neg (by intro e; cases e)]; with_reducible refine hK0 _ (wpQuiet_step (fun K1 hK1 => ?_)))
  clear hK0 K0
  go_simp
  first | (with_reducible refine hK1 _ (wpQuiet_step (fun K0 hK0 => ?_))) | (with_reducible refine ⟨_, fun _ _ => rfl, hK1 _ (wpQuiet_step (fun K0 hK0 => ?_))⟩) | (rw [if_neg (by intro e; cases e)]; with_reducible refine hK1 _ (wpQuiet_step (fun K0 hK0 => ?_)))
  clear hK1 K1
  go_simp
  first | (with_reducible refine hK0 _ (wpQuiet_step (fun K1 hK1 => ?_))) | (with_reducible refine ⟨_, fun _ _ => rfl, hK0 _ (wpQuiet_step (fun K1 hK1 => ?_))⟩) | (rw [if_neg (by intro e; cases e)]; with_reducible refine hK0 _ (wpQuiet_step (fun K1 hK1 => ?_)))
  clear hK0 K0
  go_simp
  first | (with_reducible refine hK1 _ (wpQuiet_step (fun K0 hK0 => ?_))) | (with_reducible refine ⟨_, fun _ _ => rfl, hK1 _ (wpQuiet_step (fun K0 hK0 => ?_))⟩) | (rw [if_neg (by intro e; cases e)]; with_reducible refine hK1 _ (wpQuiet_step (fun K0 hK0 => ?_)))
  clear hK1 K1
  go_simp
  first | (with_reducible refine hK0 _ (wpQuiet_step (fun K1 hK1 => ?_))) | (with_reducible refine ⟨_, fun _ _ => rfl, hK0 _ (wpQuiet_step (fun K1 hK1 => ?_))⟩) | (rw [if_neg (by intro e; cases e)]; with_reducible refine hK0 _ (wpQuiet_step (fun K1 hK1 => ?_)))
  clear hK0 K0
  go_simp
  refine ⟨.agg #[.int .u64 0, .int .u64 0], fun W hW => ?_, hK1 _ (wpQuiet_step (fun K0 hK0 => ?_))⟩
  · ((obtain ⟨⟨_, c1, c2, _⟩, _, _, _⟩ := bx_four hW.1; simp [go_sem, c1, c2, XZ.out.1, XZ.out.2]))
  clear hK1 K1
  go_simp
  first | (with_reducible refine hK0 _ (wpQuiet_step (fun K1 hK1 => ?_))) | (with_reducible refine ⟨_, fun _ _ => rfl, hK0 _ (wpQuiet_step (fun K1 hK1 => ?_))⟩) | (rw [if_neg (by intro e; cases e)]; with_reducible refine hK0 _ (wpQuiet_step (fun K1 hK1 => ?_)))
  clear hK0 K0
  go_simp
  first | (with_reducible refine hK1 _ (wpQuiet_step (fun K0 hK0 => ?_))) | (with_reducible refine ⟨_, fun _ _ => rfl, hK1 _ (wpQuiet_step (fun K0 hK0 => ?_))⟩) | (rw [if_neg (by intro e; cases e)]; with_reducible refine hK1 _ (wpQuiet_step (fun K0 hK0 => ?_)))
  clear hK1 K1
  go_simp
  first | (with_reducible refine hK0 _ (wpQuiet_step (fun K1 hK1 => ?_))) | (with_reducible refine ⟨_, fun _ _ => rfl, hK0 _ (wpQuiet_step (fun K1 hK1 => ?_))⟩) | (rw [if_neg (by intro e; cases e)]; with_reducible refine hK0 _ (wpQuiet_step (fun K1 hK1 => ?_)))
  clear hK0 K0
  go_simp
  first | (with_reducible refine hK1 _ (wpQuiet_nil ?_)) | (with_reducible refine ⟨_, fun _ _ => rfl, hK1 _ (wpQuiet_nil ?_)⟩) | (rw [if_neg (by intro e; cases e)]; with_reducible refine hK1 _ (wpQuiet_nil ?_))
  clear hK1 K1
  intro wq F1
  obtain ⟨X, L⟩ := F1
  obtain ⟨⟨x0, x1, x2, x3, x4⟩, ⟨k0, k1, k2, k3, k4⟩, ⟨a0, a1, a2, a3, a4⟩, ⟨n0, n1, n2, n3, n4⟩⟩ := bx_four X
  go_wp2_with fail
  clear x0 x1 x2 x3 x4 k0 k1 k2 k3 k4 a0 a1 a2 a3 a4 n0 n1 n2 n3 n4
  refine (RA.out _ _ L).mono ?_
  rintro e wn ⟨rfl, hb⟩
  replace X := X.step hb
  replace L := L.step hb
  clear hb
  replace L := L.step (below_alloc wn (.cells #[.int .u64 (hi rk : Nat), .int .u64 (lo rk : Nat)] 25))
  replace X := X.new rk
  obtain ⟨⟨r0, r1, r2, r3, r4⟩, ⟨a0, a1, a2, a3, a4⟩⟩ := bx_five X
  go_wp2_with fail
  clear r0 r1 r2 r3 r4 a0 a1 a2 a3 a4
  generalize wn.heap.size = g4 at X ⊢
  refine (NR.out _ _ L).mono ?_
  rintro e wm ⟨rfl, hb⟩
  replace X := (X.step hb).new yv
  replace L := (L.step hb).step (below_alloc wm (.cells #[.int .u64 (hi yv : Nat), .int .u64 (lo yv : Nat)] 25))
  clear hb
  obtain ⟨⟨y0, y1, y2, y3, y4⟩, ⟨a0, a1, a2, a3, a4⟩⟩ := bx_six X
  go_wp2_with fail
  clear y0 y1 y2 y3 y4 a0 a1 a2 a3 a4
  generalize wm.heap.size = g5 at X ⊢
  refine (HA.out _ _ L).mono ?_
  rintro e wo ⟨rfl, hb⟩
  replace X := X.step hb
  replace L := L.step hb
  clear hb
  go_wp2
  go_ret
  exact ⟨rfl, X.1⟩

set_option maxRecDepth 100000 in
set_option maxHeartbeats 4000000 in
theorem places_FFY {v : Value} {l s : List Rg} {n a cv xv rk yv : Nat} (w : World) (hv : Lst v l w)
    (BU : Hid (∀ W, Lst v l W → Calls Try.prog 28 #[v] W (Reads s W)))
    (CN : Hid (∀ W vs, Lst vs s W → Calls Try.prog 20 #[vs] W (Gives (.tuple #[A cv, .bool false]) W)))
    (NT : Hid (∀ W vs, Lst vs s W → Calls Try.prog 22 #[vs, A n] W (Gives (.tuple #[A xv, .bool false]) W)))
    (XZ : Hid (hi xv = 0 ∧ lo xv = 0))
    {d : Int} (DL : ¬ d < 0)
    (CM : Hid (∀ W, Calls Try.prog 29 #[A n, A cv] W (Gives (.int .i64 d) W)))
    (RA : Hid (∀ W vs, Lst vs s W → Calls Try.prog 26 #[vs, A a] W (Gives (A rk) W)))
    (NR : Hid (∀ W vs, Lst vs s W → Calls Try.prog 22 #[vs, A rk] W (Gives (.tuple #[A yv, .bool true]) W)))
    (HA : Hid (∀ W vs, Lst vs s W → Calls Try.prog 24 #[vs, A a] W (Gives (.bool false) W)))
    (CY : Hid (∀ W, Calls Try.prog 29 #[A yv, A a] W (Gives (.int .i64 1) W))) :
    Calls Try.prog 7 #[v, A n, A a] w (Gives (.bool true) w) := by
  have AW := hide (fun W => awake_any W)
  have X0 := ((bx_nil w).new n).new a
  have V0 := hv.step X0.1
  rw [World.size_alloc] at X0
  obtain ⟨p, c, rfl⟩ := lst_len hv
  go_enter Try.func7, Try.ntmps7
  go_wp2_with fail
  refine (AW.out _).mono ?_
  rintro e w1 ⟨rfl, hb⟩
  have X1 := X0.step hb
  have V1 := V0.step hb
  clear hb X0 V0
  go_wp2_with fail
  refine (BU.out _ V1).mono ?_
  rintro e w2 ⟨vs, rfl, hb, L2⟩
  have X2 := X1.step hb
  clear hb X1 V1
  skip
  go_wp2_with fail
  refine (CN.out _ _ L2).mono ?_
  rintro e w3 ⟨rfl, hb⟩
  have X3 := (X2.step hb).new cv
  have L3 := (L2.step hb).step (below_alloc w3 (.cells #[.int .u64 (hi cv : Nat), .int .u64 (lo cv : Nat)] 25))
  clear hb X2 L2
  obtain ⟨⟨k0, k1, k2, k3, k4⟩, ⟨a0, a1, a2, a3, a4⟩, ⟨n0, n1, n2, n3, n4⟩⟩ := bx_three X3
  go_wp2_with fail
  clear k0 k1 k2 k3 k4 a0 a1 a2 a3 a4 n0 n1 n2 n3 n4
  refine (NT.out _ _ L3).mono ?_
  rintro e w4 ⟨rfl, hb⟩
  generalize w3.heap.size = g2 at X3 ⊢
  have X := (X3.step hb).new xv
  have L := (L3.step hb).step (below_alloc w4 (.cells #[.int .u64 (hi xv : Nat), .int .u64 (lo xv : Nat)] 25))
  clear hb X3 L3
  go_wp2_with fail
  generalize w4.heap.size = g3 at X ⊢
  have F0 := And.intro X L
  clear X L
  refine wp_region_quiet (C := Pk w [(g3, xv), (g2, cv), (w.heap.size + 1, a), (w.heap.size, n)] vs s) (by kernel_rfl) (by kernel_rfl) (show Pk w [(g3, xv), (g2, cv), (w.heap.size + 1, a), (w.heap.size, n)] vs s _ from F0).drew (wpQuiet_step (fun K0 hK0 => ?_))
  go_simp
  first | (with_reducible refine hK0 _ (wpQuiet_step (fun K1 hK1 => ?_))) | (with_reducible refine ⟨_, fun _ _ => rfl, hK0 _ (wpQuiet_step (fun K1 hK1 => ?_))⟩) | (rw [if_neg (by intro e; cases e)]; with_reducible refine hK0 _ (wpQuiet_step (fun K1 hK1 => ?_)))
  clear hK0 K0
  go_simp
  first | (with_reducible refine hK1 _ (wpQuiet_step (fun K0 hK0 => ?_))) | (with_reducible refine ⟨_, fun _ _ => rfl, hK1 _ (wpQuiet_step (fun K0 hK0 => ?_))⟩) | (rw [if_neg (by intro e; cases e)]; with_reducible refine hK1 _ (wpQuiet_step (fun K0 hK0 => ?_)))
  clear hK1 K1
  go_simp
  first | (with_reducible refine hK0 _ (wpQuiet_step (fun K1 hK1 => ?_))) | (with_reducible refine ⟨_, fun _ _ => rfl, hK0 _ (wpQuiet_step (fun K1 hK1 => ?_))⟩) | (rw [if_neg (by intro e; cases e)]; with_reducible refine hK0 _ (wpQuiet_step (fun K1 hK1 => ?_)))
  clear hK0 K0
  go_simp
  refine ⟨A n, fun W hW => ?_, hK1 _ (wpQuiet_step (fun K0 hK0 => ?_))⟩
  · ((obtain ⟨_, _, _, ⟨_, c1, c2, _⟩⟩ := bx_four hW.1; simp [go_sem, c1, c2]))
  clear hK1 K1
  go_simp
  refine ⟨A cv, fun W hW => ?_, hK0 _ (wpQuiet_step (fun K1 hK1 => ?_))⟩
  · ((obtain ⟨_, ⟨_, c1, c2, _⟩, _, _⟩ := bx_four hW.1; simp [go_sem, c1, c2]))
  clear hK0 K0
  go_simp
  refine ⟨.int .i64 d, fun W hW => ?_, hK1 _ (wpQuiet_step (fun K0 hK0 => ?_))⟩
  · exact (CM.out W).mono fun e w2 ⟨he, hb⟩ => ⟨he, Pk.step hW hb⟩
  clear hK1 K1
  go_simp
  first | (with_reducible refine hK0 _ (wpQuiet_step (fun K1 hK1 => ?_))) | (with_reducible refine ⟨_, fun _ _ => rfl, hK0 _ (wpQuiet_step (fun K1 hK1 => ?_))⟩) | (rw [if_neg (by intro e; cases e)]; with_reducible refine hK0 _ (wpQuiet_step (fun K1 hK1 => ?_)))
  clear hK0 K0
  go_simp
  first | (with_reducible refine hK1 _ (wpQuiet_step (fun K0 hK0 => ?_))) | (with_reducible refine ⟨_, fun _ _ => rfl, hK1 _ (wpQuiet_step (fun K0 hK0 => ?_))⟩) | (rw [if_neg (by intro e; cases e)]; with_reducible refine hK1 _ (wpQuiet_step (fun K0 hK0 => ?_)))
  clear hK1 K1
  go_simp
  first | (with_reducible refine hK0 _ (wpQuiet_step (fun K1 hK1 => ?_))) | (with_reducible refine ⟨_, fun _ _ => rfl, hK0 _ (wpQuiet_step (fun K1 hK1 => ?_))⟩) | (rw [if_neg (by intro e; cases e)]; with_reducible refine hK0 _ (wpQuiet_step (fun K1 hK1 => ?_)))
  clear hK0 K0
  go_simp
  first | (with_reducible refine hK1 _ (wpQuiet_step (fun K0 hK0 => ?_))) | (with_reducible refine ⟨_, fun _ _ => rfl, hK1 _ (wpQuiet_step (fun K0 hK0 => ?_))⟩) | (rw [if_neg (by intro e; cases e)]; with_reducible refine hK1 _ (wpQuiet_step (fun K0 hK0 => ?_)))
  clear hK1 K1
  go_simp
  first | (with_reducible refine hK0 _ (wpQuiet_step (fun K1 hK1 => ?_))) | (with_reducible refine ⟨_, fun _ _ => rfl, hK0 _ (wpQuiet_step (fun K1 hK1 => ?_))⟩) | (rw [if_neg (by intro e; cases e)]; with_reducible refine hK0 _ (wpQuiet_step (fun K1 hK1 => ?_)))
  clear hK0 K0
  go_simp
  first | (with_reducible refine hK1 _ (wpQuiet_step (fun K0 hK0 => ?_))) | (with_reducible refine ⟨_, fun _ _ => rfl, hK1 _ (wpQuiet_step (fun K0 hK0 => ?_))⟩) | (rw [if_neg (by intro e; cases e)]; with_reducible refine hK1 _ (wpQuiet_step (fun K0 hK0 => ?_)))
  clear hK1 K1
  go_simp
  first | (with_reducible refine hK0 _ (wpQuiet_step (fun K1 hK1 => ?_))) | (with_reducible refine ⟨_, fun _ _ => rfl, hK0 _ (wpQuiet_step (fun K1 hK1 => ?_))⟩) | (rw [if_neg (by intro e; cases e)]; with_reducible refine hK0 _ (wpQuiet_step (fun K1 hK1 => ?_)))
  clear hK0 K0
  go_simp
  first | (with_reducible refine hK1 _ (wpQuiet_step (fun K0 hK0 => ?_))) | (with_reducible refine ⟨_, fun _ _ => rfl, hK1 _ (wpQuiet_step (fun K0 hK0 => ?_))⟩) | (rw [if_neg (by intro e; cases e)]; with_reducible refine hK1 _ (wpQuiet_step (fun K0 hK0 => ?_)))
  clear hK1 K1
  go_simp
  first | (with_reducible refine hK0 _ (wpQuiet_step (fun K1 hK1 => ?_))) | (with_reducible refine ⟨_, fun _ _ => rfl, hK0 _ (wpQuiet_step (fun K1 hK1 => ?_))⟩) | (rw [if_neg (by intro e; cases e)]; with_reducible refine hK0 _ (wpQuiet_step (fun K1 hK1 => ?_)))
  clear hK0 K0
  go_simp
  first | (with_reducible refine hK1 _ (wpQuiet_step (fun K0 hK0 => ?_))) | (with_reducible refine ⟨_, fun _ _ => rfl, hK1 _ (wpQuiet_step (fun K0 hK0 => ?_))⟩) | (rw [if_neg (by intro e; cases e)]; with_reducible refine hK1 _ (wpQuiet_step (fun K0 hK0 => ?_)))
  clear hK1 K1
  go_simp
  first | (with_reducible refine hK0 _ (wpQuiet_step (fun K1 hK1 => ?_))) | (with_reducible refine ⟨_, fun _ _ => rfl, hK0 _ (wpQuiet_step (fun K1 hK1 => ?_))⟩) | (rw [if_neg (by intro e; cases e)]; with_reducible refine hK0 _ (wpQuiet_step (fun K1 hK1 => ?_)))
  clear hK0 K0
  go_simp
  first | (with_reducible refine hK1 _ (wpQuiet_step (fun K0 hK0 => ?_))) | (with_reducible refine ⟨_, fun _ _ => rfl, hK1 _ (wpQuiet_step (fun K0 hK0 => ?_))⟩) | (rw [if_neg (by intro e; cases e)]; with_reducible refine hK1 _ (wpQuiet_step (fun K0 hK0 => ?_)))
  clear hK1 K1
  go_simp
  first | (with_reducible refine hK0 _ (wpQuiet_step (fun K1 hK1 => ?_))) | (with_reducible refine ⟨_, fun _ _ => rfl, hK0 _ (wpQuiet_step (fun K1 hK1 => ?_))⟩) | (rw [if_neg (by intro e; cases e)]; with_reducible refine hK0 _ (wpQuiet_step (fun K1 hK1 => ?_)))
  clear hK0 K0
  go_simp
  first | (with_reducible refine hK1 _ (wpQuiet_step (fun K0 hK0 => ?_))) | (with_reducible refine ⟨_, fun _ _ => rfl, hK1 _ (wpQuiet_step (fun K0 hK0 => ?_))⟩) | (rw [if_neg (by intro e; cases e)]; with_reducible refine hK1 _ (wpQuiet_step (fun K0 hK0 => ?_)))
  clear hK1 K1
  go_simp
  first | (with_reducible refine hK0 _ (wpQuiet_step (fun K1 hK1 => ?_))) | (with_reducible refine ⟨_, fun _ _ => rfl, hK0 _ (wpQuiet_step (fun K1 hK1 => ?_))⟩) | (rw [if_neg (by intro e; cases e)]; with_reducible refine hK0 _ (wpQuiet_step (fun K1 hK1 => ?_)))
  clear hK0 K0
  go_simp
  first | (with_reducible refine hK1 _ (wpQuiet_step (fun K0 hK0 => ?_))) | (with_reducible refine ⟨_, fun _ _ => rfl, hK1 _ (wpQuiet_step (fun K0 hK0 => ?_))⟩) | (rw [if_neg (by intro e; cases e)]; with_reducible refine hK1 _ (wpQuiet_step (fun K0 hK0 => ?_)))
  clear hK1 K1
  go_simp
  first | (with_reducible refine hK0 _ (wpQuiet_step (fun K1 hK1 => ?_))) | (with_reducible refine ⟨_, fun _ _ => rfl, hK0 _ (wpQuiet_step (fun K1 hK1 => ?_))⟩) | (rw [if_neg (by intro e; cases e)]; with_reducible refine hK0 _ (wpQuiet_step (fun K1 hK1 => ?_)))
  clear hK0 K0
  go_simp
  first | (with_reducible refine hK1 _ (wpQuiet_step (fun K0 hK0 => ?_))) | (with_reducible refine ⟨_, fun _ _ => rfl, hK1 _ (wpQuiet_step (fun K0 hK0 => ?_))⟩) | (rw [if_neg (by intro e; cases e)]; with_reducible refine hK1 _ (wpQuiet_step (fun K0 hK0 => ?_)))
  clear hK1 K1
  go_simp
  first | (with_reducible refine hK0 _ (wpQuiet_step (fun K1 hK1 => ?_))) | (with_reducible refine ⟨_, fun _ _ => rfl, hK0 _ (wpQuiet_step (fun K1 hK1 => ?_))⟩) | (rw [if_neg (by intro e; cases e)]; with_reducible refine hK0 _ (wpQuiet_step (fun K1 hK1 => ?_)))
  clear hK0 K0
  go_simp
  first | (with_reducible refine hK1 _ (wpQuiet_step (fun K0 hK0 => ?_))) | (with_reducible refine ⟨_, fun _ _ => rfl, hK1 _ (wpQuiet_step (fun K0 hK0 => ?_))⟩) | (rw [if_neg (by intro e; cases e)]; with_reducible refine hK1 _ (wpQuiet_step (fun K0 hK0 => ?_)))
  clear hK1 K1
  go_simp
  first | (with_reducible refine hK0 _ (wpQuiet_step (fun K1 hK1 => ?_))) | (with_reducible refine ⟨_, fun _ _ => rfl, hK0 _ (wpQuiet_step (fun K1 hK1 => ?_))⟩) | (rw [if_neg (by intro e; cases e)]; with_reducible refine hK0 _ (wpQuiet_step (fun K1 hK1 => ?_)))
  clear hK0 K0
  go_simp
  first | (with_reducible refine hK1 _ (wpQuiet_step (fun K0 hK0 => ?_))) | (with_reducible refine ⟨_, fun _ _ => rfl, hK1 _ (wpQuiet_step (fun K0 hK0 => ?_))⟩) | (rw [if_neg (by intro e; cases e)]; with_reducible refine hK1 _ (wpQuiet_step (fun K0 hK0 => ?_)))
  clear hK1 K1
  go_simp
  first | (with_reducible refine hK0 _ (wpQuiet_step (fun K1 hK1 => ?_))) | (with_reducible refine ⟨_, fun _ _ => rfl, hK0 _ (wpQuiet_step (fun K1 hK1 => ?_))⟩) | (rw [if_neg (by intro e; cases e)]; with_reducible refine hK0 _ (wpQuiet_step (fun K1 hK1 => ?_)))
  clear hK0 K0
  go_simp
  refine ⟨.agg #[.int .u64 0, .int .u64 0], fun W hW => ?_, hK1 _ (wpQuiet_step (fun K0 hK0 => ?_))⟩
  · ((obtain ⟨⟨_, c1, c2, _⟩, _, _, _⟩ := bx_four hW.1; simp [go_sem, c1, c2, XZ.out.1, XZ.out.2]))
  clear hK1 K1
  go_simp
  first | (with_reducible refine hK0 _ (wpQuiet_step (fun K1 hK1 => ?_))) | (with_reducible refine ⟨_, fun _ _ => rfl, hK0 _ (wpQuiet_step (fun K1 hK1 => ?_))⟩) | (rw [if_neg (by intro e; cases e)]; with_reducible refine hK0 _ (wpQuiet_step (fun K1 hK1 => ?_)))
  clear hK0 K0
  go_simp
  first | (with_reducible refine hK1 _ (wpQuiet_step (fun K0 hK0 => ?_))) | (with_reducible refine ⟨_, fun _ _ => rfl, hK1 _ (wpQuiet_step (fun K0 hK0 => ?_))⟩) | (rw [if_neg (by intro e; cases e)]; with_reducible refine hK1 _ (wpQuiet_step (fun K0 hK0 => ?_)))
  clear hK1 K1
  go_simp
  first | (with_reducible refine hK0 _ (wpQuiet_step (fun K1 hK1 => ?_))) | (with_reducible refine ⟨_, fun _ _ => rfl, hK0 _ (wpQuiet_step (fun K1 hK1 => ?_))⟩) | (rw [if_neg (by intro e; cases e)]; with_reducible refine hK0 _ (wpQuiet_step (fun K1 hK1 => ?_)))
  clear hK0 K0
  go_simp
  first | (with_reducible refine hK1 _ (wpQuiet_nil ?_)) | (with_reducible refine ⟨_, fun _ _ => rfl, hK1 _ (wpQuiet_nil ?_)⟩) | (rw [if_neg (by intro e; cases e)]; with_reducible refine hK1 _ (wpQuiet_nil ?_))
  clear hK1 K1
  intro wq F1
  obtain ⟨X, L⟩ := F1
  obtain ⟨⟨x0, x1, x2, x3, x4⟩, ⟨k0, k1, k2, k3, k4⟩, ⟨a0, a1, a2, a3, a4⟩, ⟨n0, n1, n2, n3, n4⟩⟩ := bx_four X
  go_wp2_with fail
  clear x0 x1 x2 x3 x4 k0 k1 k2 k3 k4 a0 a1 a2 a3 a4 n0 n1 n2 n3 n4
  refine (RA.out _ _ L).mono ?_
  rintro e wn ⟨rfl, hb⟩
  replace X := X.step hb
  replace L := L.step hb
  clear hb
  replace L := L.step (below_alloc wn (.cells #[.int .u64 (hi rk : Nat), .int .u64 (lo rk : Nat)] 25))
  replace X := X.new rk
  obtain ⟨⟨r0, r1, r2, r3, r4⟩, ⟨a0, a1, a2, a3, a4⟩⟩ := bx_five X
  go_wp2_with fail
  clear r0 r1 r2 r3 r4 a0 a1 a2 a3 a4
  generalize wn.heap.size = g4 at X ⊢
  refine (NR.out _ _ L).mono ?_
  rintro e wm ⟨rfl, hb⟩
  replace X := (X.step hb).new yv
  replace L := (L.step hb).step (below_alloc wm (.cells #[.int .u64 (hi yv : Nat), .int .u64 (lo yv : Nat)] 25))
  clear hb
  obtain ⟨⟨y0, y1, y2, y3, y4⟩, ⟨a0, a1, a2, a3, a4⟩⟩ := bx_six X
  go_wp2_with fail
  clear y0 y1 y2 y3 y4 a0 a1 a2 a3 a4
  generalize wm.heap.size = g5 at X ⊢
  refine (HA.out _ _ L).mono ?_
  rintro e wo ⟨rfl, hb⟩
  replace X := X.step hb
  replace L := L.step hb
  clear hb
  obtain ⟨⟨y0, y1, y2, y3, y4⟩, ⟨a0, a1, a2, a3, a4⟩⟩ := bx_six X
  go_wp2_with fail
  clear y0 y1 y2 y3 y4 a0 a1 a2 a3 a4
  refine (CY.out _).mono ?_
  rintro e wo ⟨rfl, hb⟩
  replace X := X.step hb
  replace L := L.step hb
  clear hb
  go_wp2
  go_ret
  exact ⟨rfl, X.1⟩
end Go.Proofs.Ytkpogddninbmmaa
