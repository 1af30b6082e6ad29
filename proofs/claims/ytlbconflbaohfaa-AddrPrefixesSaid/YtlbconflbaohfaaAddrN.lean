/-
  The walk of AddrNumbers: for all addresses a, b and every int n the law returns true. Condition: the words are words of 64 bits, an int is an int of 64 bits (every value of the types is such).
-/
import Derived.Test.YtlbconflbaohfaaAddrX1
import Derived.Test.YtlbconflbaohfaaAddrX2
import Derived.Test.YtlbconflbaohfaaAddrX3
import Derived.Test.YtlbconflbaohfaaAddrX4
import Derived.Test.YtlbconflbaohfaaAddrX6
import Derived.Test.YtlbconflbaohfaaAddrV
import Derived.BigQuiet
import Derived.Deep.QuietTactic
namespace Go.Proofs.Ytlbconflbaohfaa
open Go.RowKit

/-- two words, whatever they are -/
abbrev V2 (x y : Int) : Value := .agg #[.int .u64 x, .int .u64 y]
def Duo (g : Nat) (x y : Int) (W : World) : Prop := W.cell? ⟨g, 0, none⟩ = some (.int .u64 x) ∧ W.cell? ⟨g, 1, none⟩ = some (.int .u64 y) ∧
  W.frozen? ⟨g, 0, none⟩ = false ∧ W.frozen? ⟨g, 1, none⟩ = false ∧ g < W.heap.size
theorem Duo.step {g : Nat} {x y : Int} {W w2 : World} (h : Duo g x y W) (hb : Below W.heap.size W w2) : Duo g x y w2 := by
  obtain ⟨h1, h2, h3, h4, h5⟩ := h
  have z := hb.size
  exact ⟨cell_keep hb h1, cell_keep hb h2, free_keep hb h5 h3, free_keep hb h5 h4, by omega⟩
theorem duo_new (V : World) (x y : Int) (t : TypeId) : Duo V.heap.size x y (V.alloc (.cells #[.int .u64 x, .int .u64 y] t)) := by
  refine ⟨by simp, by simp, ?_, ?_, by simp⟩ <;> simp [go_sem]
theorem Duo.put {g : Nat} {x y : Int} {W : World} (h : Duo g x y W) (x' y' : Int) : Duo g x' y' ((W.setCell ⟨g, 0, none⟩ (.int .u64 x')).setCell ⟨g, 1, none⟩ (.int .u64 y')) := by
  obtain ⟨h1, h2, h3, h4, h5⟩ := h
  refine ⟨?_, ?_, ?_, ?_, by simp; exact h5⟩
  all_goals simp [go_sem, *]
theorem Duo.set {g : Nat} {x y : Int} {W : World} (h : Duo g x y W) {p : Addr} (hp : g ≠ p.block) (u : Value) : Duo g x y (W.setCell p u) := by
  obtain ⟨h1, h2, h3, h4, h5⟩ := h
  have k : ∀ o, (W.setCell p u).cell? ⟨g, o, none⟩ = W.cell? ⟨g, o, none⟩ := fun o => World.cell?_of_block (w := W) (Below.heap_setCell W p u g hp)
  have f : ∀ o, (W.setCell p u).frozen? ⟨g, o, none⟩ = W.frozen? ⟨g, o, none⟩ := fun o => World.frozen?_of_block (w := W) (Below.heap_setCell W p u g hp)
  exact ⟨by rw [k]; exact h1, by rw [k]; exact h2, by rw [f]; exact h3, by rw [f]; exact h4, by simp; exact h5⟩
def HB2 (w : World) (a1 a0 b1 b0 : Int) (W : World) : Prop := Below w.heap.size w W ∧ Duo w.heap.size a1 a0 W ∧ Duo (w.heap.size + 1) b1 b0 W
theorem HB2.step {w : World} {a1 a0 b1 b0 : Int} {W w2 : World} (hb : Below W.heap.size W w2) (h : HB2 w a1 a0 b1 b0 W) : HB2 w a1 a0 b1 b0 w2 := ⟨h.1.trans (hb.mono h.1.size), h.2.1.step hb, h.2.2.step hb⟩
theorem hb2_new (w : World) (a1 a0 b1 b0 : Int) (t : TypeId) : HB2 w a1 a0 b1 b0 ((w.alloc (.cells #[.int .u64 a1, .int .u64 a0] t)).alloc (.cells #[.int .u64 b1, .int .u64 b0] t)) := by
  refine ⟨(below_alloc w _).alloc (by simp) _, (duo_new w a1 a0 t).step (below_alloc _ _), ?_⟩
  have := duo_new (w.alloc (.cells #[.int .u64 a1, .int .u64 a0] t)) b1 b0 t
  simpa using this
/-- the blocks that the walk reads and writes -/
def HN (w : World) (a1 a0 b1 b0 : Int) (gx : Nat) (x1 x0 : Int) (gy : Nat) (y1 y0 : Int) (W : World) : Prop := HB2 w a1 a0 b1 b0 W ∧ Duo gx x1 x0 W ∧ Duo gy y1 y0 W ∧ w.heap.size + 1 < gx ∧ gx < gy
theorem HN.step {w : World} {a1 a0 b1 b0 : Int} {gx : Nat} {x1 x0 : Int} {gy : Nat} {y1 y0 : Int} {W w2 : World} (hb : Below W.heap.size W w2) (h : HN w a1 a0 b1 b0 gx x1 x0 gy y1 y0 W) : HN w a1 a0 b1 b0 gx x1 x0 gy y1 y0 w2 := ⟨HB2.step hb h.1, h.2.1.step hb, h.2.2.1.step hb, h.2.2.2⟩
theorem HN.drew {w : World} {a1 a0 b1 b0 : Int} {gx : Nat} {x1 x0 : Int} {gy : Nat} {y1 y0 : Int} {W : World} (h : HN w a1 a0 b1 b0 gx x1 x0 gy y1 y0 W) : HN w a1 a0 b1 b0 gx x1 x0 gy y1 y0 W.drew := HN.step (below_drew W) h
theorem HN.putx {w : World} {a1 a0 b1 b0 : Int} {gx : Nat} {x1 x0 : Int} {gy : Nat} {y1 y0 : Int} {W : World} (h : HN w a1 a0 b1 b0 gx x1 x0 gy y1 y0 W) (z1 z0 : Int) : HN w a1 a0 b1 b0 gx z1 z0 gy y1 y0 ((W.setCell ⟨gx, 0, none⟩ (.int .u64 z1)).setCell ⟨gx, 1, none⟩ (.int .u64 z0)) := by
  obtain ⟨⟨h1, h2, h3⟩, h4, h5, l1, l2⟩ := h
  exact ⟨⟨(h1.setCell (by dsimp only; omega) _).setCell (by dsimp only; omega) _, (h2.set (by dsimp only; omega) _).set (by dsimp only; omega) _, (h3.set (by dsimp only; omega) _).set (by dsimp only; omega) _⟩, h4.put z1 z0, (h5.set (by dsimp only; omega) _).set (by dsimp only; omega) _, l1, l2⟩
theorem HN.puty {w : World} {a1 a0 b1 b0 : Int} {gx : Nat} {x1 x0 : Int} {gy : Nat} {y1 y0 : Int} {W : World} (h : HN w a1 a0 b1 b0 gx x1 x0 gy y1 y0 W) (z1 z0 : Int) : HN w a1 a0 b1 b0 gx x1 x0 gy z1 z0 ((W.setCell ⟨gy, 0, none⟩ (.int .u64 z1)).setCell ⟨gy, 1, none⟩ (.int .u64 z0)) := by
  obtain ⟨⟨h1, h2, h3⟩, h4, h5, l1, l2⟩ := h
  exact ⟨⟨(h1.setCell (by dsimp only; omega) _).setCell (by dsimp only; omega) _, (h2.set (by dsimp only; omega) _).set (by dsimp only; omega) _, (h3.set (by dsimp only; omega) _).set (by dsimp only; omega) _⟩, (h4.set (by dsimp only; omega) _).set (by dsimp only; omega) _, h5.put z1 z0, l1, l2⟩

set_option maxRecDepth 100000 in
set_option maxHeartbeats 1000000 in
theorem numbers_walk (a1 a0 b1 b0 n s1 s0 d1 d0 m1' m0' tt u1 u0' v1 v0' c o1 o0' : Int) (so sb mo oo : Bool) (_h0 : 0 ≤ a0)
    (AU : Hid (∀ v : World, Calls Try.prog 11 #[V2 a1 a0, V2 b1 b0] v (Gives (.tuple #[V2 s1 s0, .bool so]) v)))
    (AR : Hid (∀ v : World, Calls Try.prog 12 #[V2 a1 a0, V2 b1 b0] v (Gives (.tuple #[V2 s1 s0, .bool so]) v)))
    (SU : Hid (∀ v : World, Calls Try.prog 13 #[V2 a1 a0, V2 b1 b0] v (Gives (.tuple #[V2 d1 d0, .bool sb]) v)))
    (SR : Hid (∀ v : World, Calls Try.prog 14 #[V2 a1 a0, V2 b1 b0] v (Gives (.tuple #[V2 d1 d0, .bool sb]) v)))
    (MU : Hid (∀ v : World, Calls Try.prog 15 #[V2 a1 a0, V2 b1 b0] v (Gives (.tuple #[V2 m1' m0', .bool mo]) v)))
    (MR : Hid (∀ v : World, Calls Try.prog 16 #[V2 a1 a0, V2 b1 b0] v (Gives (.tuple #[V2 m1' m0', .bool mo]) v)))
    (TU : Hid (∀ v : World, Calls Try.prog 17 #[V2 a1 a0] v (Gives (.tuple #[.int .u32 tt, .bool oo]) v)))
    (TR : Hid (∀ v : World, Calls Try.prog 18 #[V2 a1 a0] v (Gives (.tuple #[.int .u32 tt, .bool oo]) v)))
    (UU : Hid (∀ v : World, Calls Try.prog 21 #[V2 a1 a0, .int .i64 n] v (Gives (V2 u1 u0') v)))
    (UR : Hid (∀ v : World, Calls Try.prog 22 #[V2 a1 a0, .int .i64 n] v (Gives (V2 u1 u0') v)))
    (DU : Hid (∀ v : World, Calls Try.prog 23 #[V2 a1 a0, .int .i64 n] v (Gives (V2 v1 v0') v)))
    (DR : Hid (∀ v : World, Calls Try.prog 24 #[V2 a1 a0, .int .i64 n] v (Gives (V2 v1 v0') v)))
    (CU : Hid (∀ v : World, Calls Try.prog 19 #[V2 a1 a0, V2 b1 b0] v (Gives (.int .i64 c) v)))
    (CR : Hid (∀ v : World, Calls Try.prog 20 #[V2 a1 a0, V2 b1 b0] v (Gives (.int .i64 c) v)))
    (OU : Hid (∀ v : World, Calls Try.prog 25 #[.int .u32 (a0 % 4294967296)] v (Gives (V2 o1 o0') v)))
    (OR : Hid (∀ v : World, Calls Try.prog 26 #[.int .u32 (a0 % 4294967296)] v (Gives (V2 o1 o0') v)))
    (w : World) : Calls Try.prog 3 #[V2 a1 a0, V2 b1 b0, .int .i64 n] w (Gives (.bool true) w) := by
  go_enter Try.func3, Try.ntmps3
  go_wp2_with fail
  refine (awake_any _).mono ?_
  rintro e w1 ⟨rfl, hb1⟩
  have HH1 := HB2.step hb1 (hb2_new w a1 a0 b1 b0 _)
  clear hb1
  obtain ⟨HB, ⟨p0, p1, p2, p3, p4⟩, q0, q1, q2, q3, q4⟩ := id HH1
  go_wp2_with fail
  refine (AU.out _).mono ?_
  rintro e w2 ⟨rfl, hb2⟩
  clear p0 p1 p2 p3 p4 q0 q1 q2 q3 q4 HB
  have HH2 := HB2.step hb2 HH1
  clear hb2
  obtain ⟨HB, ⟨p0, p1, p2, p3, p4⟩, q0, q1, q2, q3, q4⟩ := id HH2
  go_wp2_with fail
  refine (AR.out _).mono ?_
  rintro e w3 ⟨rfl, hb3⟩
  clear p0 p1 p2 p3 p4 q0 q1 q2 q3 q4 HB
  have P3 := (duo_new w2 s1 s0 _).step hb3
  have HH3 := HB2.step hb3 (HB2.step (below_alloc _ _) HH2)
  clear hb3
  obtain ⟨r0, r1, r2, r3, r4⟩ := id P3
  obtain ⟨HB, ⟨p0, p1, p2, p3, p4⟩, q0, q1, q2, q3, q4⟩ := id HH3
  go_wp2_with fail
  refine (SU.out _).mono ?_
  rintro e w4 ⟨rfl, hb4⟩
  have HH4 : HN w a1 a0 b1 b0 w2.heap.size s1 s0 w3.heap.size s1 s0 w4 := ⟨HB2.step hb4 (HB2.step (below_alloc _ _) HH3), (P3.step (below_alloc _ _)).step hb4, (duo_new w3 s1 s0 _).step hb4, by have := HH2.2.2; exact this.2.2.2.2, r4⟩
  clear p0 p1 p2 p3 p4 q0 q1 q2 q3 q4 HB
  clear r0 r1 r2 r3 r4 P3 hb4 HH1 HH2 HH3
  obtain ⟨⟨HB, ⟨p0, p1, p2, p3, p4⟩, q0, q1, q2, q3, q4⟩, ⟨r0, r1, r2, r3, r4⟩, ⟨t0, t1, t2, t3, t4⟩, l1, l2⟩ := id HH4
  have m1 : w.heap.size ≠ w2.heap.size := by omega
  have m2 : w.heap.size + 1 ≠ w2.heap.size := by omega
  have m3 : w.heap.size ≠ w3.heap.size := by omega
  have m4 : w.heap.size + 1 ≠ w3.heap.size := by omega
  have m5 : w2.heap.size ≠ w3.heap.size := by omega
  have m6 : w3.heap.size ≠ w2.heap.size := by omega
  go_wp2_with fail
  refine (SR.out _).mono ?_
  rintro e w5 ⟨rfl, hb5⟩
  clear p0 p1 p2 p3 p4 q0 q1 q2 q3 q4 r0 r1 r2 r3 r4 t0 t1 t2 t3 t4 l1 l2 HB
  have HH5 := HN.step hb5 (HN.putx HH4 _ _)
  clear hb5
  obtain ⟨⟨HB, ⟨p0, p1, p2, p3, p4⟩, q0, q1, q2, q3, q4⟩, ⟨r0, r1, r2, r3, r4⟩, ⟨t0, t1, t2, t3, t4⟩, l1, l2⟩ := id HH5
  go_wp2_with fail
  refine (MU.out _).mono ?_
  rintro e w6 ⟨rfl, hb6⟩
  clear p0 p1 p2 p3 p4 q0 q1 q2 q3 q4 r0 r1 r2 r3 r4 t0 t1 t2 t3 t4 l1 l2 HB
  have HH6 := HN.step hb6 (HN.puty HH5 _ _)
  clear hb6
  obtain ⟨⟨HB, ⟨p0, p1, p2, p3, p4⟩, q0, q1, q2, q3, q4⟩, ⟨r0, r1, r2, r3, r4⟩, ⟨t0, t1, t2, t3, t4⟩, l1, l2⟩ := id HH6
  go_wp2_with fail
  refine (MR.out _).mono ?_
  rintro e w7 ⟨rfl, hb7⟩
  clear p0 p1 p2 p3 p4 q0 q1 q2 q3 q4 r0 r1 r2 r3 r4 t0 t1 t2 t3 t4 l1 l2 HB
  have HH7 := HN.step hb7 (HN.putx HH6 _ _)
  clear hb7
  obtain ⟨⟨HB, ⟨p0, p1, p2, p3, p4⟩, q0, q1, q2, q3, q4⟩, ⟨r0, r1, r2, r3, r4⟩, ⟨t0, t1, t2, t3, t4⟩, l1, l2⟩ := id HH7
  go_wp2_with fail
  refine (TU.out _).mono ?_
  rintro e w8 ⟨rfl, hb8⟩
  clear p0 p1 p2 p3 p4 q0 q1 q2 q3 q4 r0 r1 r2 r3 r4 t0 t1 t2 t3 t4 l1 l2 HB
  have HH8 := HN.step hb8 (HN.puty HH7 _ _)
  clear hb8
  obtain ⟨⟨HB, ⟨p0, p1, p2, p3, p4⟩, q0, q1, q2, q3, q4⟩, ⟨r0, r1, r2, r3, r4⟩, ⟨t0, t1, t2, t3, t4⟩, l1, l2⟩ := id HH8
  go_wp2_with fail
  refine (TR.out _).mono ?_
  rintro e w9 ⟨rfl, hb9⟩
  clear p0 p1 p2 p3 p4 q0 q1 q2 q3 q4 r0 r1 r2 r3 r4 t0 t1 t2 t3 t4 l1 l2 HB
  have HH9 := HN.step hb9 HH8
  clear hb9
  obtain ⟨⟨HB, ⟨p0, p1, p2, p3, p4⟩, q0, q1, q2, q3, q4⟩, ⟨r0, r1, r2, r3, r4⟩, ⟨t0, t1, t2, t3, t4⟩, l1, l2⟩ := id HH9
  go_wp2_with fail
  clear p0 p1 p2 p3 p4 q0 q1 q2 q3 q4 r0 r1 r2 r3 r4 t0 t1 t2 t3 t4 l1 l2 HB
  refine wp_region_quiet (C := HN w a1 a0 b1 b0 w2.heap.size m1' m0' w3.heap.size m1' m0') (by kernel_rfl) (by kernel_rfl) (HN.drew HH9) ?_
  refine wpQuiet_step (fun K hK => ?_)
  go_simp
  first | refine ⟨_, fun _ _ => rfl, hK _ ?_⟩ | refine hK _ ?_
  clear hK K
  refine wpQuiet_step (fun K hK => ?_)
  go_simp
  first | refine ⟨_, fun _ _ => rfl, hK _ ?_⟩ | refine hK _ ?_
  clear hK K
  refine wpQuiet_step (fun K hK => ?_)
  go_simp
  first | refine ⟨_, fun _ _ => rfl, hK _ ?_⟩ | refine hK _ ?_
  clear hK K
  refine wpQuiet_step (fun K hK => ?_)
  go_simp
  first | refine ⟨_, fun _ _ => rfl, hK _ ?_⟩ | refine hK _ ?_
  clear hK K
  refine wpQuiet_step (fun K hK => ?_)
  go_simp
  first | refine ⟨_, fun _ _ => rfl, hK _ ?_⟩ | refine hK _ ?_
  clear hK K
  refine wpQuiet_step (fun K hK => ?_)
  go_simp
  first | refine ⟨_, fun _ _ => rfl, hK _ ?_⟩ | refine hK _ ?_
  clear hK K
  refine wpQuiet_step (fun K hK => ?_)
  go_simp
  first | refine ⟨_, fun _ _ => rfl, hK _ ?_⟩ | refine hK _ ?_
  clear hK K
  refine wpQuiet_step (fun K hK => ?_)
  go_simp
  first | refine ⟨_, fun _ _ => rfl, hK _ ?_⟩ | refine hK _ ?_
  clear hK K
  refine wpQuiet_step (fun K hK => ?_)
  go_simp
  first | refine ⟨_, fun _ _ => rfl, hK _ ?_⟩ | refine hK _ ?_
  clear hK K
  refine wpQuiet_step (fun K hK => ?_)
  go_simp
  refine ⟨V2 a1 a0, fun W hW => ?_, hK _ ?_⟩
  · (obtain ⟨⟨_, ⟨k0, k1, _⟩, j0, j1, _⟩, _⟩ := hW; simp [go_sem, k0, k1])
  clear hK K
  refine wpQuiet_step (fun K hK => ?_)
  go_simp
  refine ⟨V2 b1 b0, fun W hW => ?_, hK _ ?_⟩
  · (obtain ⟨⟨_, ⟨k0, k1, _⟩, j0, j1, _⟩, _⟩ := hW; simp [go_sem, j0, j1])
  clear hK K
  refine wpQuiet_step (fun K hK => ?_)
  go_simp
  refine ⟨.int .i64 c, fun W hW => ?_, hK _ ?_⟩
  · exact (CU.out W).mono fun e w2 ⟨he, hb⟩ => ⟨he, HN.step hb hW⟩
  clear hK K
  refine wpQuiet_step (fun K hK => ?_)
  go_simp
  refine ⟨V2 a1 a0, fun W hW => ?_, hK _ ?_⟩
  · (obtain ⟨⟨_, ⟨k0, k1, _⟩, j0, j1, _⟩, _⟩ := hW; simp [go_sem, k0, k1])
  clear hK K
  refine wpQuiet_step (fun K hK => ?_)
  go_simp
  refine ⟨V2 b1 b0, fun W hW => ?_, hK _ ?_⟩
  · (obtain ⟨⟨_, ⟨k0, k1, _⟩, j0, j1, _⟩, _⟩ := hW; simp [go_sem, j0, j1])
  clear hK K
  refine wpQuiet_step (fun K hK => ?_)
  go_simp
  refine ⟨.int .i64 c, fun W hW => ?_, hK _ ?_⟩
  · exact (CR.out W).mono fun e w2 ⟨he, hb⟩ => ⟨he, HN.step hb hW⟩
  clear hK K
  refine wpQuiet_step (fun K hK => ?_)
  go_simp
  first | refine ⟨_, fun _ _ => rfl, hK _ ?_⟩ | refine hK _ ?_
  clear hK K
  refine wpQuiet_step (fun K hK => ?_)
  go_simp
  first | refine ⟨_, fun _ _ => rfl, hK _ ?_⟩ | refine hK _ ?_
  clear hK K
  refine wpQuiet_step (fun K hK => ?_)
  go_simp
  first | refine ⟨_, fun _ _ => rfl, hK _ ?_⟩ | refine hK _ ?_
  clear hK K
  refine wpQuiet_step (fun K hK => ?_)
  go_simp
  refine ⟨V2 a1 a0, fun W hW => ?_, hK _ ?_⟩
  · (obtain ⟨⟨_, ⟨k0, k1, _⟩, j0, j1, _⟩, _⟩ := hW; simp [go_sem, k0, k1])
  clear hK K
  refine wpQuiet_step (fun K hK => ?_)
  go_simp
  first | refine ⟨_, fun _ _ => rfl, hK _ ?_⟩ | refine hK _ ?_
  clear hK K
  refine wpQuiet_step (fun K hK => ?_)
  go_simp
  refine ⟨V2 u1 u0', fun W hW => ?_, hK _ ?_⟩
  · exact (UU.out W).mono fun e w2 ⟨he, hb⟩ => ⟨he, HN.step hb hW⟩
  clear hK K
  refine wpQuiet_step (fun K hK => ?_)
  go_simp
  refine ⟨V2 a1 a0, fun W hW => ?_, hK _ ?_⟩
  · (obtain ⟨⟨_, ⟨k0, k1, _⟩, j0, j1, _⟩, _⟩ := hW; simp [go_sem, k0, k1])
  clear hK K
  refine wpQuiet_step (fun K hK => ?_)
  go_simp
  first | refine ⟨_, fun _ _ => rfl, hK _ ?_⟩ | refine hK _ ?_
  clear hK K
  refine wpQuiet_step (fun K hK => ?_)
  go_simp
  refine ⟨V2 u1 u0', fun W hW => ?_, hK _ ?_⟩
  · exact (UR.out W).mono fun e w2 ⟨he, hb⟩ => ⟨he, HN.step hb hW⟩
  clear hK K
  refine wpQuiet_step (fun K hK => ?_)
  go_simp
  first | refine ⟨_, fun _ _ => rfl, hK _ ?_⟩ | refine hK _ ?_
  clear hK K
  refine wpQuiet_step (fun K hK => ?_)
  go_simp
  first | refine ⟨_, fun _ _ => rfl, hK _ ?_⟩ | refine hK _ ?_
  clear hK K
  refine wpQuiet_step (fun K hK => ?_)
  go_simp
  first | refine ⟨_, fun _ _ => rfl, hK _ ?_⟩ | refine hK _ ?_
  clear hK K
  refine wpQuiet_step (fun K hK => ?_)
  go_simp
  refine ⟨V2 a1 a0, fun W hW => ?_, hK _ ?_⟩
  · (obtain ⟨⟨_, ⟨k0, k1, _⟩, j0, j1, _⟩, _⟩ := hW; simp [go_sem, k0, k1])
  clear hK K
  refine wpQuiet_step (fun K hK => ?_)
  go_simp
  first | refine ⟨_, fun _ _ => rfl, hK _ ?_⟩ | refine hK _ ?_
  clear hK K
  refine wpQuiet_step (fun K hK => ?_)
  go_simp
  refine ⟨V2 v1 v0', fun W hW => ?_, hK _ ?_⟩
  · exact (DU.out W).mono fun e w2 ⟨he, hb⟩ => ⟨he, HN.step hb hW⟩
  clear hK K
  refine wpQuiet_step (fun K hK => ?_)
  go_simp
  refine ⟨V2 a1 a0, fun W hW => ?_, hK _ ?_⟩
  · (obtain ⟨⟨_, ⟨k0, k1, _⟩, j0, j1, _⟩, _⟩ := hW; simp [go_sem, k0, k1])
  clear hK K
  refine wpQuiet_step (fun K hK => ?_)
  go_simp
  first | refine ⟨_, fun _ _ => rfl, hK _ ?_⟩ | refine hK _ ?_
  clear hK K
  refine wpQuiet_step (fun K hK => ?_)
  go_simp
  refine ⟨V2 v1 v0', fun W hW => ?_, hK _ ?_⟩
  · exact (DR.out W).mono fun e w2 ⟨he, hb⟩ => ⟨he, HN.step hb hW⟩
  clear hK K
  refine wpQuiet_step (fun K hK => ?_)
  go_simp
  first | refine ⟨_, fun _ _ => rfl, hK _ ?_⟩ | refine hK _ ?_
  clear hK K
  refine wpQuiet_step (fun K hK => ?_)
  go_simp
  first | refine ⟨_, fun _ _ => rfl, hK _ ?_⟩ | refine hK _ ?_
  clear hK K
  refine wpQuiet_step (fun K hK => ?_)
  go_simp
  first | refine ⟨_, fun _ _ => rfl, hK _ ?_⟩ | refine hK _ ?_
  clear hK K
  refine wpQuiet_step (fun K hK => ?_)
  go_simp
  first | refine ⟨_, fun _ _ => rfl, hK _ ?_⟩ | refine hK _ ?_
  clear hK K
  refine wpQuiet_step (fun K hK => ?_)
  go_simp
  refine ⟨.int .u64 a0, fun W hW => ?_, hK _ ?_⟩
  · (obtain ⟨⟨_, ⟨k0, k1, _⟩, j0, j1, _⟩, _⟩ := hW; simp [go_sem, k1])
  clear hK K
  refine wpQuiet_step (fun K hK => ?_)
  go_simp
  first | refine ⟨_, fun _ _ => rfl, hK _ ?_⟩ | refine hK _ ?_
  clear hK K
  refine wpQuiet_step (fun K hK => ?_)
  go_simp
  refine ⟨V2 o1 o0', fun W hW => ?_, hK _ ?_⟩
  · exact (OU.out W).mono fun e w2 ⟨he, hb⟩ => ⟨he, HN.step hb hW⟩
  clear hK K
  refine wpQuiet_step (fun K hK => ?_)
  go_simp
  first | refine ⟨_, fun _ _ => rfl, hK _ ?_⟩ | refine hK _ ?_
  clear hK K
  refine wpQuiet_step (fun K hK => ?_)
  go_simp
  refine ⟨.int .u64 a0, fun W hW => ?_, hK _ ?_⟩
  · (obtain ⟨⟨_, ⟨k0, k1, _⟩, j0, j1, _⟩, _⟩ := hW; simp [go_sem, k1])
  clear hK K
  refine wpQuiet_step (fun K hK => ?_)
  go_simp
  first | refine ⟨_, fun _ _ => rfl, hK _ ?_⟩ | refine hK _ ?_
  clear hK K
  refine wpQuiet_step (fun K hK => ?_)
  go_simp
  refine ⟨V2 o1 o0', fun W hW => ?_, hK _ ?_⟩
  · exact (OR.out W).mono fun e w2 ⟨he, hb⟩ => ⟨he, HN.step hb hW⟩
  clear hK K
  refine wpQuiet_step (fun K hK => ?_)
  go_simp
  first | refine ⟨_, fun _ _ => rfl, hK _ ?_⟩ | refine hK _ ?_
  clear hK K
  refine wpQuiet_step (fun K hK => ?_)
  go_simp
  first | refine ⟨_, fun _ _ => rfl, hK _ ?_⟩ | refine hK _ ?_
  clear hK K
  refine wpQuiet_step (fun K hK => ?_)
  go_simp
  first | refine ⟨_, fun _ _ => rfl, hK _ ?_⟩ | refine hK _ ?_
  clear hK K
  refine wpQuiet_nil ?_
  intro wx HF
  go_wp2_with fail
  go_ret
  exact ⟨rfl, HF.1.1⟩

theorem of4_lo (a : Nat) (w : World) : Calls Try.prog 25 #[.int .u32 ((lo a : Nat) % 4294967296)] w (Gives (A (lo a % 4294967296)) w) := of4_any (lo a % 4294967296) (by omega) w
theorem rof4_lo (a : Nat) (w : World) : Calls Try.prog 26 #[.int .u32 ((lo a : Nat) % 4294967296)] w (Gives (A (lo a % 4294967296)) w) := rof4_any (lo a % 4294967296) (by omega) w
theorem numbers_any {a b : Nat} (ha : Fits a) (hb : Fits b) (n : Int) (hn : I63 n) (w : World) : Calls Try.prog 3 #[A a, A b, .int .i64 n] w (Gives (.bool true) w) :=
  numbers_walk _ _ _ _ _ _ _ _ _ _ _ _ _ _ _ _ _ _ _ _ _ _ _ (by omega) (hide (add_any ha hb)) (hide (radd_any ha hb)) (hide (sub_any ha hb)) (hide (rsub_any ha hb)) (hide (mod_any ha hb)) (hide (rmod_any ha hb)) (hide (to4_any a)) (hide (rto4_any ha)) (hide (up_any ha n hn)) (hide (rup_any ha n hn)) (hide (down_any ha n hn)) (hide (rdown_any ha n hn)) (hide (cmp_any a b)) (hide (rcmp_any ha hb)) (hide (of4_lo a)) (hide (rof4_lo a)) w
end Go.Proofs.Ytlbconflbaohfaa
